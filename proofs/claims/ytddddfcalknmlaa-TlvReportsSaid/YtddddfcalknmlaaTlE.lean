/- SameItems, same, num. -/
import Derived.Test.YtddddfcalknmlaaTlV
import Derived.ChangeKeysEq
namespace Go.Proofs.Ytddddfcalknmlaa
open Go.RowKit
set_option maxHeartbeats 3200000
set_option maxRecDepth 100000
def sameI : List Itm → List Itm → Bool
  | [], [] => true
  | a :: r, b :: s => (a.typ == b.typ) && ((a.data == b.data) && sameI r s)
  | _, _ => false
theorem sameI_self (l : List Itm) : sameI l l = true := by
  induction l with
  | nil => rfl
  | cons a r ih => simp [sameI, ih]
theorem sameI_len : ∀ (l m : List Itm), l.length ≠ m.length → sameI l m = false
  | [], [], h => absurd rfl h
  | [], _ :: _, _ => rfl
  | _ :: _, [], _ => rfl
  | a :: r, b :: s, h => by simp only [sameI]; rw [sameI_len r s (by simpa using h)]; simp
theorem sameI_drop {l m : List Itm} {k : Nat} {a b : Itm} (h : l[k]? = some a) (h' : m[k]? = some b) : sameI (l.drop k) (m.drop k) = ((a.typ == b.typ) && ((a.data == b.data) && sameI (l.drop (k + 1)) (m.drop (k + 1)))) := by
  obtain ⟨hk, rfl⟩ := List.getElem?_eq_some_iff.1 h
  obtain ⟨hk', rfl⟩ := List.getElem?_eq_some_iff.1 h'
  rw [List.drop_eq_getElem_cons hk, List.drop_eq_getElem_cons hk', sameI]
theorem sameItems_any (A A' : Option Addr) (n n' c c' : Nat) (l l' : List Itm) (w : World) (hr : RItm w w.heap.size A n l) (hr' : RItm w w.heap.size A' n' l') (hn : n ≤ 10000000) :
    Calls Try.prog 15 #[.slice A n c, .slice A' n' c'] w fun e w' => e = .returned (.bool (sameI l l')) ∧ Below w.heap.size w w' := by
  have Hl := hid hr.1
  have Hl' := hid hr'.1
  have HR := hid hr
  have HR' := hid hr'
  clear hr hr'
  by_cases hnn : n = n'
  · subst hnn
    have t : ((n : Int) == (n : Int)) = true := by simp
    go_enter Try.func15, Try.ntmps15
    go_wp2_with fail
    go_loopw [5] (fun i wr => ∃ k : Nat, k ≤ n ∧ i = .int .i64 k ∧ Hid (sameI l l' = sameI (l.drop k) (l'.drop k)) ∧ Below w.heap.size w wr) (fun i _ => n - (intOf i).toNat)
    case atStart => exact ⟨0, Nat.zero_le _, rfl, rfl, Below.refl _ _⟩
    case round =>
      obtain ⟨k, hk, rfl, HA, hbel⟩ := hrel
      by_cases hlt : k < n
      · obtain ⟨e, he⟩ : ∃ e, l[k]? = some e := ⟨l[k]'(by rw [Hl.out]; omega), List.getElem?_eq_getElem _⟩
        obtain ⟨e', he'⟩ : ∃ e', l'[k]? = some e' := ⟨l'[k]'(by rw [Hl'.out]; omega), List.getElem?_eq_getElem _⟩
        obtain ⟨b, off, rfl, hb, hcl⟩ := HR.out.2 (by omega)
        obtain ⟨b', off', rfl, hb', hcl'⟩ := HR'.out.2 (by omega)
        obtain ⟨c0, D, dc, c1, hrd, _⟩ := hcl k e he
        obtain ⟨c0', D', dc', c1', hrd', _⟩ := hcl' k e' he'
        have d0 := (hbel.cell (p := ⟨b, off + k * 2, none⟩) hb).trans c0
        have d1 := (hbel.cell (p := ⟨b, off + k * 2 + 1, none⟩) hb).trans c1
        have d2 := (hbel.cell (p := ⟨b', off' + k * 2, none⟩) hb').trans c0'
        have d3 := (hbel.cell (p := ⟨b', off' + k * 2 + 1, none⟩) hb').trans c1'
        have HD := hid (hrd.below hbel)
        have HD' := hid (hrd'.below hbel)
        have Hd := hid (sameI_drop he he')
        clear hcl he c0 c1 hrd hcl' he' c0' c1' hrd'
        by_cases ht : e.typ = e'.typ
        · have t1 : (e.typ == e'.typ) = true := by simp [ht]
          have t2 : (e.typ != e'.typ) = false := by simp [ht]
          have Ht := hid ht
          have kx : ∀ nq, (convert 23 9 (.slice D e.data.length dc)).run Try.prog (wr.drewN nq) = .ok (.string ⟨e.data.toArray⟩) (wr.drewN nq) := fun nq => conv_str (w := wr.drewN nq) HD.out
          have ky : ∀ nq, (convert 23 9 (.slice D' e'.data.length dc')).run Try.prog (wr.drewN nq) = .ok (.string ⟨e'.data.toArray⟩) (wr.drewN nq) := fun nq => conv_str (w := wr.drewN nq) HD'.out
          clear ht
          cases hq : (e.data == e'.data) with
          | false =>
            go_wp2_with fail
            go_big_quiet (fail)
            go_wp2_with fail
            go_ret
            refine ⟨ret_bool (by rw [HA.out, Hd.out, hq]; simp), hbel.trans ⟨rfl, rfl, rfl, Nat.le_refl _, fun _ _ => rfl⟩⟩
          | true =>
            go_wp2_with fail
            go_big_quiet (fail)
            go_wp2_with fail
            go_roundw
            case rel => exact ⟨k + 1, by omega, by go_num, by rw [HA.out, Hd.out, hq, t1]; rfl, hbel.trans ⟨rfl, rfl, rfl, Nat.le_refl _, fun _ _ => rfl⟩⟩
            case measure => simp [intOf]; omega
        · have t1 : (e.typ == e'.typ) = false := by simp [ht]
          have t2 : (e.typ != e'.typ) = true := by simp [ht]
          clear ht
          go_wp2_with fail
          go_big_quiet (fail)
          go_wp2_with fail
          go_ret
          refine ⟨ret_bool (by rw [HA.out, Hd.out, t1]; rfl), hbel.trans ⟨rfl, rfl, rfl, Nat.le_refl _, fun _ _ => rfl⟩⟩
      · obtain rfl : k = n := by omega
        go_wp2_with fail
        go_ret
        refine ⟨ret_bool (by rw [HA.out, List.drop_of_length_le (by rw [Hl.out]; omega), List.drop_of_length_le (by rw [Hl'.out]; omega)]; rfl), hbel⟩
  · have t : ((n : Int) == (n' : Int)) = false := by simp; omega
    have t' : ((n : Int) != (n' : Int)) = true := by simp; omega
    have HS := hid (sameI_len l l' (by rw [Hl.out, Hl'.out]; exact hnn))
    go_enter Try.func15, Try.ntmps15
    go_wp2_with fail
    go_ret
    exact ⟨ret_bool (by rw [HS.out]), Below.refl _ _⟩
/-- A slice value reads as the pairs l below block B. -/
def RPr (w : World) (B : Nat) (A : Option Addr) (n : Nat) (l : List (Int × Int)) : Prop :=
  l.length = n ∧ (0 < n → ∃ b off, A = some ⟨b, off, none⟩ ∧ b < B ∧ ∀ (i : Nat) (e : Int × Int), l[i]? = some e → w.cell? ⟨b, off + i * 2, none⟩ = some (.int .i64 e.1) ∧ w.cell? ⟨b, off + i * 2 + 1, none⟩ = some (.int .i64 e.2))
theorem RPr.below {w w' : World} {B n : Nat} {A : Option Addr} {l : List (Int × Int)} (h : RPr w B A n l) (hb : Below B w w') : RPr w' B A n l := by
  refine ⟨h.1, fun hn => ?_⟩
  obtain ⟨b, off, hA, hB, hc⟩ := h.2 hn
  refine ⟨b, off, hA, hB, fun i e he => ?_⟩
  obtain ⟨h1, h2⟩ := hc i e he
  exact ⟨(hb.cell (p := ⟨b, _, none⟩) hB).trans h1, (hb.cell (p := ⟨b, _, none⟩) hB).trans h2⟩
theorem RPr.more {w : World} {B B' n : Nat} {A : Option Addr} {l : List (Int × Int)} (h : RPr w B A n l) (hB : B ≤ B') : RPr w B' A n l := by
  refine ⟨h.1, fun hn => ?_⟩
  obtain ⟨b, off, hA, hb, hc⟩ := h.2 hn
  exact ⟨b, off, hA, by omega, hc⟩
theorem own_pairs {w : World} {base : Nat} {v : Value} {l : List (Int × Int)} (h : w.ownsRow base 48 2 v l.length (pcells l)) : ∃ A cap, v = .slice A l.length cap ∧ RPr w w.heap.size A l.length l := by
  rcases Nat.eq_zero_or_pos l.length with h0 | h0
  · rcases h.2 with ⟨rfl, h1⟩ | ⟨g, cap, cur, rfl, _⟩
    · exact ⟨none, 0, by rw [h0], rfl, fun h => by omega⟩
    · exact ⟨_, cap, rfl, rfl, fun h => by omega⟩
  · obtain ⟨g, cap, rfl, _, hlt⟩ := h.form h0
    refine ⟨_, cap, rfl, rfl, fun _ => ⟨g, 0, rfl, hlt, fun i e he => ?_⟩⟩
    obtain ⟨h1, h2⟩ := pcells_at he
    have k1 := h.cells (g := g) rfl _ _ h1
    have k2 := h.cells (g := g) rfl _ _ h2
    rw [Go.WideShapes.add_plain] at k1 k2
    exact ⟨k1, by rw [Nat.add_assoc]; exact k2⟩
def sameP : List (Int × Int) → List (Int × Int) → Bool
  | [], [] => true
  | a :: r, b :: s => ((a.1 == b.1) && (a.2 == b.2)) && sameP r s
  | _, _ => false
theorem sameP_self (l : List (Int × Int)) : sameP l l = true := by
  induction l with
  | nil => rfl
  | cons a r ih => simp [sameP, ih]
theorem sameP_len : ∀ (l m : List (Int × Int)), l.length ≠ m.length → sameP l m = false
  | [], [], h => absurd rfl h
  | [], _ :: _, _ => rfl
  | _ :: _, [], _ => rfl
  | a :: r, b :: s, h => by simp only [sameP]; rw [sameP_len r s (by simpa using h)]; simp
theorem sameP_drop {l m : List (Int × Int)} {k : Nat} {a b : Int × Int} (h : l[k]? = some a) (h' : m[k]? = some b) : sameP (l.drop k) (m.drop k) = (((a.1 == b.1) && (a.2 == b.2)) && sameP (l.drop (k + 1)) (m.drop (k + 1))) := by
  obtain ⟨hk, rfl⟩ := List.getElem?_eq_some_iff.1 h
  obtain ⟨hk', rfl⟩ := List.getElem?_eq_some_iff.1 h'
  rw [List.drop_eq_getElem_cons hk, List.drop_eq_getElem_cons hk', sameP]
theorem eq2_run (w : World) (a b c d : Int) : (Op.equalIn 10000 48 (.agg #[.int .i64 a, .int .i64 b]) (.agg #[.int .i64 c, .int .i64 d])).run Try.prog w = .ok ((a == c) && (b == d)) w := by
  obtain ⟨i, hi, _⟩ := info_parts (show (Try.prog.info? 3).map (fun i => (i.zero, i.size, i.bytes)) = some (some (.int .i64 0), 1, 8) by kernel_rfl)
  rw [show (10000 : Nat) = 9999 + 1 from rfl, run_equalIn_array w 9999 (e := 3) (n := 2) (i := i) _ _ (by kernel_rfl) hi, show Try.prog.cellsOf 3 = 1 by kernel_rfl]
  have hp : ∀ (cs : Array Value) (off : Nat) (v : Value), cs[off]? = some v → (part 3 cs off).run Try.prog w = .ok v w := by
    intro cs off v h
    simp [part, isAgg, run_underlying Try.underlying3, h]
  have he : ∀ x y : Int, (Op.equalIn 9999 3 (.int .i64 x) (.int .i64 y)).run Try.prog w = .ok (x == y) w := fun x y => run_equalIn_int w 9998 3 .i64 .i64 x y Try.underlying3
  rw [show List.range 2 = [0, 1] from rfl]
  simp only [Op.eqItems, Sem.run_bind]
  rw [hp _ _ (.int .i64 a) rfl, Result.andThen_ok, hp _ _ (.int .i64 c) rfl, Result.andThen_ok, he, Result.andThen_ok]
  cases h1 : (a == c) with
  | false => simp
  | true =>
    simp only [Bool.not_true, Bool.false_eq_true, if_false, Sem.run_bind, Bool.true_and]
    rw [hp _ _ (.int .i64 b) rfl, Result.andThen_ok, hp _ _ (.int .i64 d) rfl, Result.andThen_ok, he, Result.andThen_ok]
    cases h2 : (b == d) <;> simp
theorem neq2_run (w : World) (a b c d : Int) : (binOp .neq 48 (.agg #[.int .i64 a, .int .i64 b]) (.agg #[.int .i64 c, .int .i64 d])).run Try.prog w = .ok (.bool (!((a == c) && (b == d)))) w := by
  rw [run_neq_struct, eq2_run]; rfl
theorem eql2_run (w : World) (a b c d : Int) : (binOp .eql 48 (.agg #[.int .i64 a, .int .i64 b]) (.agg #[.int .i64 c, .int .i64 d])).run Try.prog w = .ok (.bool ((a == c) && (b == d))) w := by
  rw [run_eql_struct, eq2_run]; rfl
theorem num_any (n : Int) (w : World) : Calls Try.prog 14 #[.int .i64 n] w fun e w' => e = .returned (.int .i64 n) ∧ w = w' := by
  go_enter Try.func14, Try.ntmps14
  go_wp2
  go_ret
  exact ⟨rfl, rfl⟩
theorem same_any (A A' : Option Addr) (n n' c c' : Nat) (l l' : List (Int × Int)) (w : World) (hr : RPr w w.heap.size A n l) (hr' : RPr w w.heap.size A' n' l') (hn : n ≤ 10000000) :
    Calls Try.prog 16 #[.slice A n c, .slice A' n' c'] w fun e w' => e = .returned (.bool (sameP l l')) ∧ Below w.heap.size w w' := by
  have Hl := hid hr.1
  have Hl' := hid hr'.1
  have HR := hid hr
  have HR' := hid hr'
  clear hr hr'
  by_cases hnn : n = n'
  · subst hnn
    have t : ((n : Int) == (n : Int)) = true := by simp
    go_enter Try.func16, Try.ntmps16
    go_wp2_with fail
    go_loopw [5] (fun i wr => ∃ k : Nat, k ≤ n ∧ i = .int .i64 k ∧ Hid (sameP l l' = sameP (l.drop k) (l'.drop k)) ∧ Below w.heap.size w wr) (fun i _ => n - (intOf i).toNat)
    case atStart => exact ⟨0, Nat.zero_le _, rfl, rfl, Below.refl _ _⟩
    case round =>
      obtain ⟨k, hk, rfl, HA, hbel⟩ := hrel
      by_cases hlt : k < n
      · obtain ⟨e, he⟩ : ∃ e, l[k]? = some e := ⟨l[k]'(by rw [Hl.out]; omega), List.getElem?_eq_getElem _⟩
        obtain ⟨e', he'⟩ : ∃ e', l'[k]? = some e' := ⟨l'[k]'(by rw [Hl'.out]; omega), List.getElem?_eq_getElem _⟩
        obtain ⟨b, off, rfl, hb, hcl⟩ := HR.out.2 (by omega)
        obtain ⟨b', off', rfl, hb', hcl'⟩ := HR'.out.2 (by omega)
        obtain ⟨c0, c1⟩ := hcl k e he
        obtain ⟨c0', c1'⟩ := hcl' k e' he'
        have d0 := (hbel.cell (p := ⟨b, off + k * 2, none⟩) hb).trans c0
        have d1 := (hbel.cell (p := ⟨b, off + k * 2 + 1, none⟩) hb).trans c1
        have d2 := (hbel.cell (p := ⟨b', off' + k * 2, none⟩) hb').trans c0'
        have d3 := (hbel.cell (p := ⟨b', off' + k * 2 + 1, none⟩) hb').trans c1'
        have Hd := hid (sameP_drop he he')
        have hq2 := fun W : World => neq2_run W e.1 e.2 e'.1 e'.2
        clear hcl he c0 c1 hcl' he' c0' c1'
        cases hq : ((e.1 == e'.1) && (e.2 == e'.2)) with
        | false =>
          have Hq := hid hq
          rw [hq] at hq2
          clear hq
          go_wp2_with fail
          go_big_quiet (fail)
          go_wp2_with fail
          go_ret
          refine ⟨ret_bool (by rw [HA.out, Hd.out, Hq.out]; rfl), hbel.trans ⟨rfl, rfl, rfl, Nat.le_refl _, fun _ _ => rfl⟩⟩
        | true =>
          have Hq := hid hq
          rw [hq] at hq2
          clear hq
          go_wp2_with fail
          go_big_quiet (fail)
          go_wp2_with fail
          go_roundw
          case rel => exact ⟨k + 1, by omega, by go_num, by rw [HA.out, Hd.out, Hq.out]; rfl, hbel.trans ⟨rfl, rfl, rfl, Nat.le_refl _, fun _ _ => rfl⟩⟩
          case measure => simp [intOf]; omega
      · obtain rfl : k = n := by omega
        go_wp2_with fail
        go_ret
        refine ⟨ret_bool (by rw [HA.out, List.drop_of_length_le (by rw [Hl.out]; omega), List.drop_of_length_le (by rw [Hl'.out]; omega)]; rfl), hbel⟩
  · have t : ((n : Int) == (n' : Int)) = false := by simp; omega
    have t' : ((n : Int) != (n' : Int)) = true := by simp; omega
    have HS := hid (sameP_len l l' (by rw [Hl.out, Hl'.out]; exact hnn))
    go_enter Try.func16, Try.ntmps16
    go_wp2_with fail
    go_ret
    exact ⟨ret_bool (by rw [HS.out]), Below.refl _ _⟩
end Go.Proofs.Ytddddfcalknmlaa
