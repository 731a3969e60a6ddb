/- Segments: as data, rows of them; SameSegs. -/
import Derived.Test.YtjblhajmnlcfaaaWdB
import Derived.OwnWalk
namespace Go.Proofs.Ytjblhajmnlcfaaa
open Go.RowKit
set_option maxHeartbeats 6400000
set_option maxRecDepth 100000
structure Sg where
  edge : Bool
  too : Int
def noSg : Sg := ⟨false, 0⟩
def scells2 (l : List Sg) : List Value := l.flatMap fun s => [.bool s.edge, .int .i64 s.too]
theorem scells2_app (a b : List Sg) : scells2 (a ++ b) = scells2 a ++ scells2 b := List.flatMap_append
theorem scells2_len (l : List Sg) : (scells2 l).length = l.length * 2 := by
  induction l with
  | nil => rfl
  | cons t l ih =>
    have h : scells2 (t :: l) = [.bool t.edge, .int .i64 t.too] ++ scells2 l := rfl
    rw [h, List.length_append, ih]
    simp only [List.length_cons, List.length_nil]; omega
theorem scells2_one (l : List Sg) : ∀ u ∈ scells2 l, u.oneCell' = true := by
  intro u hu
  simp only [scells2, List.mem_flatMap] at hu
  obtain ⟨t, _, hu⟩ := hu
  simp only [List.mem_cons, List.not_mem_nil, or_false] at hu
  rcases hu with rfl | rfl <;> rfl
theorem scells2_at {l : List Sg} {i : Nat} {t : Sg} (h : l[i]? = some t) : (scells2 l)[i * 2]? = some (.bool t.edge) ∧ (scells2 l)[i * 2 + 1]? = some (.int .i64 t.too) := by
  obtain ⟨hi, ht⟩ := List.getElem?_eq_some_iff.1 h
  have e : l = l.take i ++ t :: l.drop (i + 1) := by
    have := List.take_append_drop i l
    rw [List.drop_eq_getElem_cons hi, ht] at this
    exact this.symm
  have hl : (scells2 (l.take i)).length = i * 2 := by rw [scells2_len, List.length_take]; congr 1; omega
  have hx : scells2 l = scells2 (l.take i) ++ ([.bool t.edge, .int .i64 t.too] ++ scells2 (l.drop (i + 1))) := by
    conv => lhs; rw [e]
    rw [scells2_app]; rfl
  rw [hx]
  refine ⟨?_, ?_⟩
  · rw [List.getElem?_append_right (by omega), hl, show i * 2 - i * 2 = 0 by omega]; rfl
  · rw [List.getElem?_append_right (by omega), hl, show i * 2 + 1 - i * 2 = 1 by omega]; rfl
/-- A row of segments. -/
def RSeg (w : World) (B : Nat) (A : Option Addr) (n : Nat) (l : List Sg) : Prop :=
  l.length = n ∧ (0 < n → ∃ b off, A = some ⟨b, off, none⟩ ∧ b < B ∧ ∀ (i : Nat) (t : Sg), l[i]? = some t → w.cell? ⟨b, off + i * 2, none⟩ = some (.bool t.edge) ∧ w.cell? ⟨b, off + i * 2 + 1, none⟩ = some (.int .i64 t.too))
theorem RSeg.on {a b : World} {A : Option Addr} {n : Nat} {l : List Sg} (h : RSeg a a.heap.size A n l) (hb : Below a.heap.size a b) : RSeg b b.heap.size A n l := by
  refine ⟨h.1, fun hn => ?_⟩
  obtain ⟨c, off, hA, hc, hx⟩ := h.2 hn
  refine ⟨c, off, hA, Nat.lt_of_lt_of_le hc hb.size, fun i t ht => ?_⟩
  obtain ⟨h1, h2⟩ := hx i t ht
  exact ⟨(hb.cell (p := ⟨c, _, none⟩) hc).trans h1, (hb.cell (p := ⟨c, _, none⟩) hc).trans h2⟩
theorem own_segs {w : World} {base m : Nat} {v : Value} {l : List Sg} (h : w.ownsRow base 26 2 v m (scells2 l)) (hl : l.length = m) : ∃ A cap, v = .slice A m cap ∧ m ≤ cap ∧ RSeg w w.heap.size A m l := by
  subst hl
  rcases Nat.eq_zero_or_pos l.length with h0 | h0
  · rcases h.2 with ⟨rfl, h1⟩ | ⟨g, cap, cur, rfl, _, _, h2, _⟩
    · exact ⟨none, 0, by rw [h0], by omega, rfl, fun h => by omega⟩
    · exact ⟨_, cap, rfl, by omega, rfl, fun h => by omega⟩
  · rcases h.2 with ⟨_, h1⟩ | ⟨g, cap, cur, rfl, _, hg, h2, _⟩
    · omega
    refine ⟨_, cap, rfl, h2, rfl, fun _ => ⟨g, 0, rfl, ?_, fun i e he => ?_⟩⟩
    · rcases Nat.lt_or_ge g w.heap.size with hlt | hge
      · exact hlt
      · rw [Array.getElem?_eq_none hge] at hg; cases hg
    obtain ⟨c0, c1⟩ := scells2_at he
    have k0 := h.cells (g := g) rfl (i * 2) _ c0
    have k1 := h.cells (g := g) rfl (i * 2 + 1) _ c1
    rw [Go.WideShapes.add_plain] at k0 k1
    exact ⟨k0, k1⟩
theorem seg_stood : Try.prog.stoodInHeld 26 = false := by kernel_rfl
theorem seg_eq (s s' : Sg) (W : World) : (binOp .eql 26 (.agg #[.bool s.edge, .int .i64 s.too]) (.agg #[.bool s'.edge, .int .i64 s'.too])).run Try.prog W = .ok (.bool (s.edge == s'.edge && s.too == s'.too)) W := by
  rw [run_eql_struct, run_equalIn_agg W 9999 26 _ _ (by simp [Program.fieldsOf, Try.underlying26]) seg_stood]
  cases h1 : (s.edge == s'.edge) <;> cases h2 : (s.too == s'.too) <;> simp [Program.fieldsOf, Try.underlying26, Op.eqFields, part, go_sem, h1, h2]
theorem seg_ne (s s' : Sg) (W : World) : (binOp .neq 26 (.agg #[.bool s.edge, .int .i64 s.too]) (.agg #[.bool s'.edge, .int .i64 s'.too])).run Try.prog W = .ok (.bool (!(s.edge == s'.edge && s.too == s'.too))) W := by
  rw [run_neq_struct, run_equalIn_agg W 9999 26 _ _ (by simp [Program.fieldsOf, Try.underlying26]) seg_stood]
  cases h1 : (s.edge == s'.edge) <;> cases h2 : (s.too == s'.too) <;> simp [Program.fieldsOf, Try.underlying26, Op.eqFields, part, go_sem, h1, h2]
end Go.Proofs.Ytjblhajmnlcfaaa
