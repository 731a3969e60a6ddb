import Derived.Test.YtmhedmjealggfaaPkC
namespace Go.Proofs.Ytmhedmjealggfaa
open Go.RowKit
set_option maxHeartbeats 1600000
set_option maxRecDepth 100000

theorem getTuple_all : ReadSpec0 13 := by
  intro A n c bs w hr
  by_cases h : n = 13
  · subst h
    have hl := hr.1
    obtain ⟨b, off, rfl, hb, hc⟩ := hr.2 (by omega)
    match bs, hl with
    | [x0, x1, x2, x3, x4, x5, x6, x7, x8, x9, x10, x11, x12], _ =>
      have h1 : readT [x0, x1, x2, x3, x4, x5, x6, x7, x8, x9, x10, x11, x12] = ⟨be4 x0 x1 x2 x3, be4 x4 x5 x6 x7, (x8.toNat : Int), be2 x9 x10, be2 x11 x12⟩ := rfl
      have h2 : readE [x0, x1, x2, x3, x4, x5, x6, x7, x8, x9, x10, x11, x12] = 0 := rfl
      rw [h1, h2]
      exact getTuple_yes b off c x0 x1 x2 x3 x4 x5 x6 x7 x8 x9 x10 x11 x12 w (hc 0 _ rfl) (hc 1 _ rfl) (hc 2 _ rfl) (hc 3 _ rfl) (hc 4 _ rfl) (hc 5 _ rfl) (hc 6 _ rfl) (hc 7 _ rfl) (hc 8 _ rfl) (hc 9 _ rfl) (hc 10 _ rfl) (hc 11 _ rfl) (hc 12 _ rfl) hb
  · have h1 : readT bs = ⟨0, 0, 0, 0, 0⟩ := by unfold readT; rw [if_neg (by rw [hr.1]; exact h)]
    have h2 : readE bs = 2 := by unfold readE; rw [if_neg (by rw [hr.1]; exact h)]
    rw [h1, h2]
    exact getTuple_no A n c w h

/-! a flow is read back from its bytes -/
theorem be4_back (x : Int) (h : 0 ≤ x) (h' : x < 4294967296) : be4 (byt (x / 16777216)) (byt (x / 65536)) (byt (x / 256)) (byt x) = x := by
  unfold be4
  rw [byt_val, byt_val, byt_val, byt_val]
  omega
theorem be2_back (x : Int) (h : 0 ≤ x) (h' : x < 65536) : be2 (byt (x / 256)) (byt x) = x := by
  unfold be2
  rw [byt_val, byt_val]
  omega
theorem read_back (t : Tup) (hf : t.fits) (hk : t.ok = true) : readT t.bytes = t ∧ readE t.bytes = 0 := by
  have hl := bytes_len hk
  have hb : t.bytes = be4s t.src ++ (be4s t.dst ++ [byt t.pro, byt (t.sp / 256), byt t.sp, byt (t.dp / 256), byt t.dp]) := by unfold Tup.bytes; rw [if_pos hk]
  refine ⟨?_, by unfold readE; rw [if_pos hl]⟩
  unfold readT
  rw [if_pos hl, hb]
  obtain ⟨a, b, p, q, r⟩ := t
  simp only [Tup.ok, decide_eq_true_eq] at hk
  obtain ⟨f1, f2, f3, f4⟩ := hf
  simp only at f1 f2 f3 f4
  show Tup.mk (be4 (byt (a / 16777216)) (byt (a / 65536)) (byt (a / 256)) (byt a)) (be4 (byt (b / 16777216)) (byt (b / 65536)) (byt (b / 256)) (byt b)) ((byt p).toNat : Int) (be2 (byt (q / 256)) (byt q)) (be2 (byt (r / 256)) (byt r)) = _
  rw [be4_back a f1 f2, be4_back b f3 f4, be2_back q (by omega) (by omega), be2_back r (by omega) (by omega), byt_val, show p % 256 = p by omega]
theorem read_none : readT [] = ⟨0, 0, 0, 0, 0⟩ ∧ readE [] = 2 := ⟨rfl, rfl⟩

theorem num2_any (n : Int) (w : World) : Calls Try.prog 15 #[.int .i64 n] w fun e w' => e = .returned (.int .i64 n) ∧ w = w' := by
  go_enter Try.func15, Try.ntmps15
  go_wp2
  go_ret
  exact ⟨rfl, rfl⟩

/-- Bytes of a flow that may be. -/
theorem bytes_ok {f : FuncId} (hB : BytesSpec f) (t : Tup) (hf : t.fits) (hk : t.ok = true) (w : World) : Calls Try.prog f #[.agg #[.int .u32 t.src, .int .u32 t.dst, .int .i64 t.pro, .int .i64 t.sp, .int .i64 t.dp]] w fun e w' =>
    ∃ A c, e = .returned (.slice A 13 c) ∧ 13 ≤ c ∧ RByt w' w'.heap.size A 13 t.bytes ∧ Below w.heap.size w w' := by
  have := hB t hf w
  rw [bytes_len hk] at this
  exact this
theorem read_ok {f : FuncId} (hR : ReadSpec f) (t : Tup) (hf : t.fits) (hk : t.ok = true) (A : Option Addr) (n c : Nat) (w : World) (hc : n ≤ c) (hr : RByt w w.heap.size A n t.bytes) : Calls Try.prog f #[.slice A n c] w fun e w' =>
    e = .returned (.tuple #[.agg #[.int .u32 t.src, .int .u32 t.dst, .int .i64 t.pro, .int .i64 t.sp, .int .i64 t.dp], .int .i64 0]) ∧ Below w.heap.size w w' := by
  have := hR A n c t.bytes w hc hr
  rw [(read_back t hf hk).1, (read_back t hf hk).2] at this
  exact this
def t6 : Tup := ⟨0, 0, 6, 0, 0⟩
def t0 : Tup := ⟨0, 0, 0, 0, 0⟩
theorem new_cell {w w3 : World} {cs : Array Value} {t : TypeId} (h : Below (w.alloc (.cells cs t)).heap.size (w.alloc (.cells cs t)) w3) (i : Nat) : w3.cell? ⟨w.heap.size, i, none⟩ = cs[i]? :=
  (h.cell (p := ⟨w.heap.size, i, none⟩) (by simp)).trans (cell_of_row _ _ _ _ _ _ (heap_alloc_new w _))
theorem alive2 (hB : BytesSpec 11) (hR : ReadSpec 12) (w : World) : Calls Try.prog 10 #[] w fun e w' => e = .returned (.bool true) ∧ Below w.heap.size w w' := by
  have f6 : t6.fits := ⟨by decide, by decide, by decide, by decide⟩
  have f0 : t0.fits := ⟨by decide, by decide, by decide, by decide⟩
  have B6 := hid (fun w => bytes_ok hB t6 f6 (by decide) w)
  have B0 := hid (fun w => bytes_ok hB t0 f0 (by decide) w)
  have R6 : Hid (∀ (A : Option Addr) (n c : Nat) (w : World), n ≤ c → RByt w w.heap.size A n t6.bytes → Calls Try.prog 12 #[.slice A n c] w fun e w' => e = .returned (.tuple #[.agg #[.int .u32 0, .int .u32 0, .int .i64 6, .int .i64 0, .int .i64 0], .int .i64 0]) ∧ Below w.heap.size w w') :=
    fun A n c w hc hr => read_ok hR t6 f6 (by decide) A n c w hc hr
  clear f6 f0 hB hR
  go_enter Try.func10, Try.ntmps10
  go_wp2_with fail
  refine (B6.out _).mono ?_
  rintro e' w1 ⟨A, c, rfl, hc, hr, hb1⟩
  go_wp2_with fail
  refine (R6.out _ _ _ _ hc hr).mono ?_
  rintro e' w2 ⟨rfl, hb2⟩
  go_wp2_with fail
  refine (B0.out _).mono ?_
  rintro e' w3 ⟨A3, c3, rfl, _, _, hb3⟩
  have k2 := new_cell hb3 2
  go_wp2_with (go_at_call 15; (with_reducible refine (num2_any _ _).mono ?_); rintro e' w4 ⟨rfl, rfl⟩)
  go_ret
  have hb02 := hb1.trans (hb2.mono hb1.size)
  exact ⟨rfl, (hb02.alloc hb02.size _).trans (hb3.mono (by have := hb02.size; simp; omega))⟩
end Go.Proofs.Ytmhedmjealggfaa
