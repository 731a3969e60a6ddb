import Derived.Test.YtihbpggoieieoaaK
import Derived.Laws.MakeOwn
namespace Go.Proofs.Ytihbpggoieieoaa
open Go.RowKit
set_option maxHeartbeats 1600000
set_option maxRecDepth 100000

/-- n entries, all numbers 0, of which the one at 'at' may say that it is the last. -/
def zed (b : Bool) : Ent := ⟨0, 0, 0, b⟩
def lst (n a : Nat) (b : Bool) : List Ent := (List.range n).map fun i => zed (decide (i = a) && b)
theorem lst_len (n a : Nat) (b : Bool) : (lst n a b).length = n := by simp [lst]
theorem lst_at {n a i : Nat} {b : Bool} {e : Ent} (h : (lst n a b)[i]? = some e) : i < n ∧ e = zed (decide (i = a) && b) := by
  have hi : i < (lst n a b).length := (List.getElem?_eq_some_iff.1 h).1
  rw [lst_len] at hi
  refine ⟨hi, ?_⟩
  simp [lst, hi] at h
  exact h.symm
theorem okAll_range (n a m : Nat) (b : Bool) (hm : m ≤ n) : okAll ((lst n a b).drop (n - m)) = true ↔ ∀ i, n - m ≤ i → i < n → (decide (i = a) && b) = decide (i + 1 = n) := by
  induction m with
  | zero =>
    rw [List.drop_of_length_le (by rw [lst_len]; omega)]
    simp only [okAll, true_iff]
    intro i h1 h2
    omega
  | succ m ih =>
    have he : (lst n a b)[n - (m + 1)]? = some (zed (decide (n - (m + 1) = a) && b)) := by
      have : n - (m + 1) < n := by omega
      simp [lst, this]
    have hs : n - (m + 1) + 1 = n - m := by omega
    rw [okAll_drop (lst_len n a b) he, hs]
    have hf : ∀ q, (zed q).fits = true := by intro q; simp [zed, Ent.fits]
    rw [hf, Bool.true_and, Bool.and_eq_true, beq_iff_eq, ih (by omega)]
    simp only [zed]
    constructor
    · rintro ⟨h1, h2⟩ i h3 h4
      by_cases h5 : i = n - (m + 1)
      · subst h5; rw [h1, hs]
      · exact h2 i (by omega) h4
    · intro h
      refine ⟨?_, fun i h1 h2 => h i (by omega) h2⟩
      have := h (n - (m + 1)) (Nat.le_refl _) (by omega)
      rw [this, hs]
theorem okAll_lst (n a : Nat) (b : Bool) (hn : 1 ≤ n) (ha : a < n) : okAll (lst n a b) = (b && decide (a + 1 = n)) := by
  have := okAll_range n a n b (Nat.le_refl _)
  rw [Nat.sub_self, List.drop_zero] at this
  rw [Bool.eq_iff_iff, this]
  simp only [decide_eq_true_eq, Bool.and_eq_true]
  constructor
  · intro h
    have h1 := h (n - 1) (by omega) (by omega)
    rw [show n - 1 + 1 = n by omega] at h1
    simp at h1
    exact ⟨h1.2, by omega⟩
  · rintro ⟨rfl, h⟩ i _ hi
    simp only [Bool.and_true]
    rw [decide_eq_decide]; omega
theorem isStk_lst (n a : Nat) (b : Bool) (hn : 1 ≤ n) (hm : n ≤ 1000) (ha : a < n) : isStk (lst n a b) = (b && decide (a + 1 = n)) := by
  unfold isStk
  rw [lst_len, okAll_lst n a b hn ha]
  simp [hn, hm]

theorem run_make_rowN {P : Program} (t e : TypeId) (i : TypeInfo) (z : Value) (ht : P.underlying t = some (.slice e)) (hi : P.info? e = some i) (hz : i.zero = some z)
    (kl kc : IntKind) (n c : Nat) (hnc : n ≤ c) (hbytes : i.bytes * c ≤ 281474976710656) (h63 : c ≤ 9223372036854775807) (w : World) :
    (Instr.makeSlice t (.int kl (n : Int)) (.int kc (c : Int))).run P w = .ok (.slice (some ⟨w.heap.size, 0, none⟩) n c) (w.alloc (.cells (madeCells z.cells (c * i.size)) e)) := by
  have hb : (i.bytes : Int) * (c : Int) ≤ 281474976710656 := by
    have h : ((i.bytes * c : Nat) : Int) ≤ 281474976710656 := by omega
    rwa [Int.natCast_mul] at h
  have hr := run_make (P := P) w t e i z ht hi hz kl kc n c (by omega) (by omega) hb (by omega)
  simp only [Int.toNat_natCast] at hr
  exact hr
def zcells (n : Nat) : Array Value := madeCells #[.int .i64 0, .int .i64 0, .int .i64 0, .bool false] (n * 4)
theorem make_ents (n : Nat) (hn : n ≤ 50) (w : World) : (Instr.makeSlice 22 (.int .i64 (n : Int)) (.int .i64 (n : Int))).run Try.prog w = .ok (.slice (some ⟨w.heap.size, 0, none⟩) n n) (w.alloc (.cells (zcells n) 38)) := by
  obtain ⟨i0, hi, hz0, hz1, hz2⟩ := info_parts Try.info38
  have := run_make_rowN (P := Try.prog) 22 38 i0 _ Try.underlying22 hi hz0 .i64 .i64 n n (Nat.le_refl _) (by rw [hz2]; omega) (by omega) w
  rw [hz1] at this
  exact this
theorem zcells_at (w : World) (n j : Nat) (hj : j < n * 4) : (w.alloc (.cells (zcells n) 38)).cell? ⟨w.heap.size, j, none⟩ = some (if j % 4 = 3 then .bool false else .int .i64 0) := by
  rw [cell_of_row _ _ _ _ _ _ (heap_alloc_new w _)]
  unfold zcells madeCells
  rw [Array.getElem?_map, Array.getElem?_range, if_pos hj]
  simp only [Option.map_some]
  have : j % 4 = 0 ∨ j % 4 = 1 ∨ j % 4 = 2 ∨ j % 4 = 3 := by omega
  rcases this with h | h | h | h <;> simp [h]
/-- behind the store: the entries with the one at 'a' set -/
theorem set_ent {w : World} {B g n a : Nat} {b b' : Bool} (hg : g < B) (h : REnt w B (some ⟨g, 0, none⟩) n (lst n a b)) (ha : a < n) : REnt (w.setCell ⟨g, a * 4 + 3, none⟩ (.bool b')) B (some ⟨g, 0, none⟩) n (lst n a b') := by
  refine ⟨lst_len _ _ _, fun hn => ⟨g, 0, rfl, hg, fun i e he => ?_⟩⟩
  obtain ⟨hi, rfl⟩ := lst_at he
  obtain ⟨g', o', h1, _, hc⟩ := h.2 hn
  simp only [Option.some.injEq, Addr.mk.injEq] at h1
  obtain ⟨rfl, rfl, _⟩ := h1
  obtain ⟨c0, c1, c2, c3⟩ := hc i (zed (decide (i = a) && b)) (by simp [lst, hi])
  have hne : ∀ o, o ≠ a * 4 + 3 → (⟨g, a * 4 + 3, none⟩ : Addr) ≠ ⟨g, o, none⟩ := by
    intro o ho h
    simp only [Addr.mk.injEq] at h
    omega
  refine ⟨?_, ?_, ?_, ?_⟩
  · rw [World.cell?_setCell_other _ _ _ _ (hne _ (by omega))]; exact c0
  · rw [World.cell?_setCell_other _ _ _ _ (hne _ (by omega))]; exact c1
  · rw [World.cell?_setCell_other _ _ _ _ (hne _ (by omega))]; exact c2
  · by_cases hia : i = a
    · subst hia
      simp only [Nat.zero_add] at c3 ⊢
      rw [World.cell?_setCell_same _ _ _ c3]
      simp [zed]
    · rw [World.cell?_setCell_other _ _ _ _ (hne _ (by omega))]
      simpa [zed, hia] using c3
theorem made_ent (w : World) (n a : Nat) : REnt (w.alloc (.cells (zcells n) 38)) (w.heap.size + 1) (some ⟨w.heap.size, 0, none⟩) n (lst n a false) := by
  refine ⟨lst_len _ _ _, fun hn => ⟨_, 0, rfl, by omega, fun i e he => ?_⟩⟩
  obtain ⟨hi, rfl⟩ := lst_at he
  have z := fun j hj => zcells_at w n j hj
  refine ⟨?_, ?_, ?_, ?_⟩
  · rw [z _ (by omega), if_neg (by omega)]; rfl
  · rw [z _ (by omega), if_neg (by omega)]; rfl
  · rw [z _ (by omega), if_neg (by omega)]; rfl
  · rw [z _ (by omega), if_pos (by omega)]; simp [zed]

theorem zcells_last (n a : Nat) (ha : a < n) : (zcells n)[a * 4 + 3]? = some (.bool false) := by
  have := zcells_at default n (a * 4 + 3) (by omega)
  rw [cell_of_row _ _ _ _ _ _ (heap_alloc_new _ _), if_pos (by omega)] at this
  exact this
theorem zcells_size (n : Nat) : (zcells n).size = n * 4 := by simp [zcells, size_madeCells]
theorem alloc_set (w : World) (cs : Array Value) (t : TypeId) (i : Nat) (v : Value) : (w.alloc (.cells cs t)).setCell ⟨w.heap.size, i, none⟩ v = w.alloc (.cells (cs.setIfInBounds i v) t) := by
  simp [go_sem]
theorem made_set (w : World) (n a : Nat) (ha : a < n) : REnt (w.alloc (.cells ((zcells n).setIfInBounds (a * 4 + 3) (.bool true)) 38)) (w.heap.size + 1) (some ⟨w.heap.size, 0, none⟩) n (lst n a true) := by
  have := set_ent (b' := true) (by omega) (made_ent w n a) ha
  rwa [alloc_set] at this

theorem alloc_frozen (w : World) (cs : Array Value) (t : TypeId) (i : Nat) : (w.alloc (.cells cs t)).frozen? ⟨w.heap.size, i, none⟩ = false := by simp [go_sem]
theorem cell_ent {w w1 : World} {n a g : Nat} {b : Bool} {o : Obj} (h : REnt w (w1.heap.size + 1) (some ⟨g, 0, none⟩) n (lst n a b)) (hn : 0 < n) (ha : a < n) (hb : Below (w1.heap.size + 1) (w1.alloc o) w) (hf : (w1.alloc o).frozen? ⟨g, a * 4 + 3, none⟩ = false) (hg : g < w1.heap.size + 1) :
    w.cell? ⟨g, a * 4 + 3, none⟩ = some (.bool b) ∧ w.frozen? ⟨g, a * 4 + 3, none⟩ = false := by
  obtain ⟨g', o', h1, _, hc⟩ := h.2 hn
  simp only [Option.some.injEq, Addr.mk.injEq] at h1
  obtain ⟨rfl, rfl, _⟩ := h1
  have := (hc a (zed (decide (a = a) && b)) (by simp [lst, ha])).2.2.2
  refine ⟨by simpa [zed] using this, (hb.frozen (p := ⟨g, a * 4 + 3, none⟩) hg).trans hf⟩

theorem last_in (n a : Nat) (hn : 1 ≤ n) (hm : n ≤ 50) (ha : a < n) (w : World) : Calls Try.prog 5 #[.int .i64 n, .int .i64 a] w fun e w' => e = .returned (.bool true) ∧ Below w.heap.size w w' := by
  have hmk := make_ents n hm
  have hz := zcells_last n a ha
  have hzs := zcells_size n
  have t1 : decide ((n : Int) < 1) = false := by simp; omega
  by_cases hl : a + 1 = n
  · have ht : ((a : Int) == (n : Int) - 1) = true := by simp; omega
    have hl' : ((n : Int) - 1) = (a : Int) := by omega
    have HL := hid hl
    have HL' := hid hl'
    have h1 : isStk (lst n a true) = true := by rw [isStk_lst n a true hn (by omega) ha]; simp [hl]
    have h2 : isStk (lst n a false) = false := by rw [isStk_lst n a false hn (by omega) ha]; simp
    have H1 := hid h1
    have H2 := hid h2
    clear hl hl' h1 h2
    go_enter Try.func5, Try.ntmps5
    go_wp2_with (first
      | (go_at_call 7; (with_reducible refine (alive_any _).mono ?_); rintro e' w1 ⟨rfl, hb1⟩))
    have hr1 := made_set w1 n a ha
    refine (putA_yes H1.out (put_all _ n n _ _ (hr1.more (by simp)))).mono ?_
    rintro e' w2 ⟨A, c, rfl, _, hb2⟩
    have hbx := hb2.mono (B' := w1.heap.size + 1) (by simp)
    have hr2 := hr1.below hbx
    have hs2 : w1.heap.size < w2.heap.size := by have := hb2.size; simp at this; omega
    obtain ⟨c3, f3⟩ := cell_ent hr2 (by omega) ha hbx (alloc_frozen _ _ _ _) (by omega)
    have hbel2 : Below w.heap.size w w2 := (hb1.alloc hb1.size _).trans (hb2.mono (by have := hb1.size; simp; omega))
    have hr3 := (set_ent (b' := false) (by omega) hr2 ha).more (B' := w2.heap.size) (by omega)
    have Hr3 := hid hr3
    clear hr1 hr2 hr3 hmk hz hzs hbx
    go_wp2_with fail
    have hbs : Below w.heap.size w (w2.setCell ⟨w1.heap.size, a * 4 + 3, none⟩ (.bool false)) := hbel2.setCell (p := ⟨w1.heap.size, a * 4 + 3, none⟩) hb1.size _
    refine (putA_no H2.out (put_all _ n n _ _ (Hr3.out.more (by simp [World.setCell])))).mono ?_
    rintro e' w3 ⟨rfl, hb3⟩
    go_wp2_with (go_at_call 12; (with_reducible refine (num_any _ _).mono ?_); rintro e' w3 ⟨rfl, rfl⟩)
    go_ret
    exact ⟨rfl, hbs.trans (hb3.mono hbs.size)⟩
  · have ht : ((a : Int) == (n : Int) - 1) = false := by simp; omega
    have HL := hid hl
    have h1 : isStk (lst n a true) = false := by rw [isStk_lst n a true hn (by omega) ha]; simp [hl]
    have h2 : isStk (lst n a false) = false := by rw [isStk_lst n a false hn (by omega) ha]; simp
    have H1 := hid h1
    have H2 := hid h2
    clear hl h1 h2
    go_enter Try.func5, Try.ntmps5
    go_wp2_with (first
      | (go_at_call 7; (with_reducible refine (alive_any _).mono ?_); rintro e' w1 ⟨rfl, hb1⟩))
    have hr1 := made_set w1 n a ha
    refine (putA_no H1.out (put_all _ n n _ _ (hr1.more (by simp)))).mono ?_
    rintro e' w2 ⟨rfl, hb2⟩
    have hbx := hb2.mono (B' := w1.heap.size + 1) (by simp)
    have hr2 := hr1.below hbx
    have hs2 : w1.heap.size < w2.heap.size := by have := hb2.size; simp at this; omega
    obtain ⟨c3, f3⟩ := cell_ent hr2 (by omega) ha hbx (alloc_frozen _ _ _ _) (by omega)
    have hbel2 : Below w.heap.size w w2 := (hb1.alloc hb1.size _).trans (hb2.mono (by have := hb1.size; simp; omega))
    have hr3 := (set_ent (b' := false) (by omega) hr2 ha).more (B' := w2.heap.size) (by omega)
    have Hr3 := hid hr3
    clear hr1 hr2 hr3 hmk hz hzs hbx
    go_wp2_with fail
    have hbs : Below w.heap.size w (w2.setCell ⟨w1.heap.size, a * 4 + 3, none⟩ (.bool false)) := hbel2.setCell (p := ⟨w1.heap.size, a * 4 + 3, none⟩) hb1.size _
    refine (putA_no H2.out (put_all _ n n _ _ (Hr3.out.more (by simp [World.setCell])))).mono ?_
    rintro e' w3 ⟨rfl, hb3⟩
    go_wp2_with (go_at_call 12; (with_reducible refine (num_any _ _).mono ?_); rintro e' w3 ⟨rfl, rfl⟩)
    go_ret
    exact ⟨rfl, hbs.trans (hb3.mono hbs.size)⟩
theorem last_out (n a : Int) (h : n < 1 ∨ 50 < n ∨ a < 0 ∨ n ≤ a) (w : World) : Calls Try.prog 5 #[.int .i64 n, .int .i64 a] w fun e w' => e = .returned (.bool true) ∧ Below w.heap.size w w' := by
  rcases (show decide (n < 1) = true ∨ (decide (n < 1) = false ∧ decide (50 < n) = true) ∨ (decide (n < 1) = false ∧ decide (50 < n) = false ∧ decide (a < 0) = true) ∨ (decide (n < 1) = false ∧ decide (50 < n) = false ∧ decide (a < 0) = false ∧ decide (n ≤ a) = true) by simp only [decide_eq_true_eq, decide_eq_false_iff_not]; omega) with h1 | ⟨h1, h2⟩ | ⟨h1, h2, h3⟩ | ⟨h1, h2, h3, h4⟩ <;>
  · clear h
    go_enter Try.func5, Try.ntmps5
    go_wp2_with (go_at_call 7; (with_reducible refine (alive_any _).mono ?_); rintro e' w1 ⟨rfl, hb1⟩)
    go_ret
    exact ⟨rfl, hb1⟩
theorem last_any (n a : Int) (w : World) : Calls Try.prog 5 #[.int .i64 n, .int .i64 a] w fun e w' => e = .returned (.bool true) ∧ Below w.heap.size w w' := by
  by_cases h : n < 1 ∨ 50 < n ∨ a < 0 ∨ n ≤ a
  · exact last_out n a h w
  · obtain ⟨n', rfl⟩ := Int.eq_ofNat_of_zero_le (show 0 ≤ n by omega)
    obtain ⟨a', rfl⟩ := Int.eq_ofNat_of_zero_le (show 0 ≤ a by omega)
    exact last_in n' a' (by omega) (by omega) (by omega) w
end Go.Proofs.Ytihbpggoieieoaa
