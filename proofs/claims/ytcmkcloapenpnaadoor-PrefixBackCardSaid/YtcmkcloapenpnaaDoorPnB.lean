/- Landed prefix: what its calls lean on (the library's variables as they were laid), fits, trim. -/
import Derived.Test.YtcmkcloapenpnaaDoorPnA
import Derived.Test.YtcmkcloapenpnaaDoorShS
import Derived.Test.YtcmkcloapenpnaaDoorPfE
import Derived.Lib.LaidTab
import Derived.Lib.AppendIntMem
import Derived.BigQuiet
import Derived.StillTailTactics
namespace Go.Proofs.YtcmkcloapenpnaaDoor
open Go.RowKit
set_option maxHeartbeats 6400000
set_option maxRecDepth 100000
theorem var_below {P : Program} {w w' : World} {name : String} {cs : Array Value} (h : w.var? P name = some cs) (hb : Below w.heap.size w w') : w'.var? P name = some cs := by
  unfold World.var? at *
  cases hg : P.globalNamed name with
  | none => simp [hg] at h
  | some g =>
    simp only [hg, Option.bind_some] at h ⊢
    have hlt : g < w.heap.size := by
      rcases Nat.lt_or_ge g w.heap.size with h' | h'
      · exact h'
      · simp [Array.getElem?_eq_none_iff.2 h'] at h
    rw [hb.block g hlt]
    exact h
/-- What the library's variables hold: the table of powers and the two errors. -/
def Ld (w : World) : Prop :=
  Lib.TabIs Tryd.prog w "internal/strconv.uint64pow10" .u64 Lib.pow10Tab ∧ (∃ tp p, w.var? Tryd.prog "strconv.ErrSyntax" = some #[.iface tp p]) ∧ ∃ tp p, w.var? Tryd.prog "strconv.ErrRange" = some #[.iface tp p]
theorem Ld.on {w w' : World} (h : Ld w) (hb : Below w.heap.size w w') : Ld w' := by
  obtain ⟨h1, ⟨t1, p1, h2⟩, t2, p2, h3⟩ := h
  exact ⟨var_below h1 hb, ⟨t1, p1, var_below h2 hb⟩, t2, p2, var_below h3 hb⟩
theorem fits_any (m n : Int) (w : World) : Calls Tryd.prog 32 #[.int .i64 m, .int .i64 n] w fun e w' => e = .returned (.bool (m == 0 || m == n)) ∧ w = w' := by
  cases c1 : (m == 0) with
  | true =>
    go_enter Tryd.func32, Tryd.ntmps32
    go_wp2_with fail
    go_ret
    exact ⟨rfl, rfl⟩
  | false =>
    rw [Bool.false_or]
    cases c2 : (m == n) with
    | true =>
      go_enter Tryd.func32, Tryd.ntmps32
      go_wp2_with fail
      go_ret
      exact ⟨rfl, rfl⟩
    | false =>
      go_enter Tryd.func32, Tryd.ntmps32
      go_wp2_with fail
      go_ret
      exact ⟨rfl, rfl⟩
theorem trim_and (a k : Nat) (ha : a < 4294967296) (hk : k ≤ 32) : bits .and .u32 (a : Int) (IntKind.u32.wrap (4294967295 * 2 ^ k)) = ((a / 2 ^ k * 2 ^ k : Nat) : Int) := by
  have e : IntKind.u32.wrap (4294967295 * 2 ^ k) = ((4294967295 * 2 ^ k % 4294967296 : Nat) : Int) := by
    rw [IntKind.wrap_u32, Int.natCast_emod, Int.natCast_mul, Int.natCast_pow]; rfl
  rw [e, u32_and_nat a _ ha (Nat.mod_lt _ (by decide)), mask_and a k ha hk]
theorem trim_any (a : Nat) (n : Int) (w : World) (ha : a < 4294967296) : Calls Tryd.prog 25 #[.agg #[.int .u32 (a : Int), .int .i64 n]] w fun e w' => e = .returned (.agg #[.int .u32 (maskS a (cut32 n) : Int), .int .i64 (cut32 n : Int)]) ∧ Below w.heap.size w w' := by
  obtain ⟨c, hc⟩ : ∃ c, cut32 n = c := ⟨_, rfl⟩
  have hc2 : c ≤ 32 := hc ▸ cut32_le n
  have hm := trim_and a (32 - c) ha (by omega)
  rw [hc]
  unfold cut32 at hc
  have e1 : min (max n 0) 32 = (c : Int) := by omega
  clear hc
  obtain ⟨k, hk⟩ : ∃ k, 32 - c = k := ⟨_, rfl⟩
  rw [hk] at hm
  obtain ⟨M, hM⟩ : ∃ M, maskS a c = M := ⟨_, rfl⟩
  have hM2 : a / 2 ^ k * 2 ^ k = M := by rw [← hM]; unfold maskS; rw [hk]
  rw [hM2] at hm
  rw [hM]
  have e2 : IntKind.i64.wrap (32 - (c : Int)) = (k : Int) := by rw [IntKind.wrap_i64]; omega
  have e3 : min k 32 = k := by omega
  clear hk hc2 hM hM2
  go_enter Tryd.func25, Tryd.ntmps25
  go_wp2_with fail
  obtain ⟨w2, hw2⟩ : ∃ w2, (w.alloc (.cells #[.int .u32 (a : Int), .int .i64 (c : Int)] 24)).alloc (.cells #[.int .u32 0, .int .i64 0] 24) = w2 := ⟨_, rfl⟩
  rw [hw2]
  have hx2 : w2.heap[w.heap.size]? = some (.cells #[.int .u32 (a : Int), .int .i64 (c : Int)] 24 (0, 0)) := by
    rw [← hw2, Below.heap_alloc _ _ _ (by simp)]; exact heap_alloc_new w _
  have hy2 : w2.heap[w.heap.size + 1]? = some (.cells #[.int .u32 0, .int .i64 0] 24 (0, 0)) := by
    have := heap_alloc_new (w.alloc (.cells #[.int .u32 (a : Int), .int .i64 (c : Int)] 24)) (.cells #[.int .u32 0, .int .i64 0] 24)
    rw [hw2] at this
    simpa using this
  have hb2 : Hid (Below w.heap.size w w2) := by
    rw [← hw2]
    exact ((Below.refl _ w).alloc (Nat.le_refl _) _).alloc (by simp) _
  clear hw2
  obtain ⟨x0, x1, x2⟩ := box_cells hx2
  go_still_tail 8, (by kernel_rfl)
  change wpList _ _ _ _ _ w2.drew
  obtain ⟨w3, hw3⟩ : ∃ w3, w2.drew = w3 := ⟨_, rfl⟩
  have hx3 : w3.heap[w.heap.size]? = some (.cells #[.int .u32 (a : Int), .int .i64 (c : Int)] 24 (0, 0)) := hw3 ▸ hx2
  have hy3 : w3.heap[w.heap.size + 1]? = some (.cells #[.int .u32 0, .int .i64 0] 24 (0, 0)) := hw3 ▸ hy2
  have hb3 : Hid (Below w.heap.size w w3) := hw3 ▸ hb2.out.drew
  rw [hw3]
  clear hw3 x0 x1 x2 hx2 hy2 hb2
  obtain ⟨z0, z1, z2⟩ := box_cells hx3
  have hx4 := box_set0 (u := .int .u32 (M : Int)) hx3
  have hy4 : (w3.setCell ⟨w.heap.size, 0, none⟩ (.int .u32 (M : Int))).heap[w.heap.size + 1]? = some (.cells #[.int .u32 0, .int .i64 0] 24 (0, 0)) := by
    rw [Below.heap_setCell _ _ _ _ (show w.heap.size + 1 ≠ w.heap.size by omega)]; exact hy3
  have hb4 : Hid (Below w.heap.size w (w3.setCell ⟨w.heap.size, 0, none⟩ (.int .u32 (M : Int)))) := hb3.out.setCell (Nat.le_refl _) _
  have hx5 : Hid ((w3.setCell ⟨w.heap.size, 0, none⟩ (.int .u32 (M : Int))).heap[w.heap.size]? = some (.cells #[.int .u32 (M : Int), .int .i64 (c : Int)] 24 (0, 0))) := hx4
  have hy5 := hid hy4
  obtain ⟨q0, q1, q2⟩ := box_cells hx4
  obtain ⟨r0, r1, r2⟩ := box_cells hy4
  clear hx4 hy4
  go_wp2_with fail
  have hg := box_set1 (u := .int .i64 (c : Int)) (box_set0 (u := .int .u32 (M : Int)) hy5.out)
  refine bodyPost_ret (results_cell_row (p := 2) (fn := Tryd.f25) rfl _ _ _ _ _ _ _ rfl hg Tryd.underlying24 rfl (by kernel_rfl)) rfl ?_
  exact ⟨rfl, (hb4.out.setCell (by simp) _).setCell (by simp) _⟩
end Go.Proofs.YtcmkcloapenpnaaDoor
