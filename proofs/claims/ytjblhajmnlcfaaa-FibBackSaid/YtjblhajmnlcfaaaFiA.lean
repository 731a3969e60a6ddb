/- Labels, segments, stacks: plainly; rows of entries. -/
import Derived.Test.YtjblhajmnlcfaaaSgB
namespace Go.Proofs.Ytjblhajmnlcfaaa
open Go.RowKit
set_option maxHeartbeats 6400000
set_option maxRecDepth 100000
structure En where
  lab : Int
  cls : Int
  ttl : Int
  last : Bool
def labelS (s : Sg) : Int := if s.too < 0 ∨ 240 < s.too then -1 else if s.edge then 24000 + s.too else 16000 + s.too
def segOf (e : Int) (nd : Int) (n : Nat) (x : Int) : Option Sg :=
  if e ≠ 0 then none else if 16000 ≤ x ∧ x < 16000 + nd then some ⟨false, x - 16000⟩ else if 24000 ≤ x ∧ x < 24000 + 2 * n then some ⟨true, x - 24000⟩ else none
def cutT (x : Int) : Int := if x < 0 then 0 else if 255 < x then 255 else x
def entAt (l : List Sg) (ttl : Int) (i : Nat) : En := ⟨labelS (l.getD i noSg), 0, cutT ttl, decide ((i : Int) = (l.length : Int) - 1)⟩
def entsUp (l : List Sg) (ttl : Int) (k : Nat) : List En := (List.range k).map (entAt l ttl)
def goodL (l : List Sg) : Bool := l.all fun s => decide (0 ≤ labelS s)
def stackS (l : List Sg) (ttl : Int) : List En := if goodL l then entsUp l ttl l.length else []
def segsS (f : Int → Option Sg) (l : List En) : Option (List Sg) := if l.all (fun e => (f e.lab).isSome) then some (l.map fun e => (f e.lab).getD noSg) else none
def ecells (l : List En) : List Value := l.flatMap fun e => [.int .i64 e.lab, .int .i64 e.cls, .int .i64 e.ttl, .bool e.last]
theorem ecells_app (a b : List En) : ecells (a ++ b) = ecells a ++ ecells b := List.flatMap_append
theorem ecells_len (l : List En) : (ecells l).length = l.length * 4 := by
  induction l with
  | nil => rfl
  | cons t l ih =>
    have h : ecells (t :: l) = [.int .i64 t.lab, .int .i64 t.cls, .int .i64 t.ttl, .bool t.last] ++ ecells l := rfl
    rw [h, List.length_append, ih]
    simp only [List.length_cons, List.length_nil]; omega
theorem ecells_one (l : List En) : ∀ u ∈ ecells l, u.oneCell' = true := by
  intro u hu
  simp only [ecells, List.mem_flatMap] at hu
  obtain ⟨t, _, hu⟩ := hu
  simp only [List.mem_cons, List.not_mem_nil, or_false] at hu
  rcases hu with rfl | rfl | rfl | rfl <;> rfl
theorem ecells_at {l : List En} {i : Nat} {t : En} (h : l[i]? = some t) : (ecells l)[i * 4]? = some (.int .i64 t.lab) ∧ (ecells l)[i * 4 + 1]? = some (.int .i64 t.cls) ∧ (ecells l)[i * 4 + 2]? = some (.int .i64 t.ttl) ∧ (ecells l)[i * 4 + 3]? = some (.bool t.last) := by
  obtain ⟨hi, ht⟩ := List.getElem?_eq_some_iff.1 h
  have e : l = l.take i ++ t :: l.drop (i + 1) := by
    have := List.take_append_drop i l
    rw [List.drop_eq_getElem_cons hi, ht] at this
    exact this.symm
  have hl : (ecells (l.take i)).length = i * 4 := by rw [ecells_len, List.length_take]; congr 1; omega
  have hx : ecells l = ecells (l.take i) ++ ([.int .i64 t.lab, .int .i64 t.cls, .int .i64 t.ttl, .bool t.last] ++ ecells (l.drop (i + 1))) := by
    conv => lhs; rw [e]
    rw [ecells_app]; rfl
  rw [hx]
  refine ⟨?_, ?_, ?_, ?_⟩
  · rw [List.getElem?_append_right (by omega), hl, show i * 4 - i * 4 = 0 by omega]; rfl
  · rw [List.getElem?_append_right (by omega), hl, show i * 4 + 1 - i * 4 = 1 by omega]; rfl
  · rw [List.getElem?_append_right (by omega), hl, show i * 4 + 2 - i * 4 = 2 by omega]; rfl
  · rw [List.getElem?_append_right (by omega), hl, show i * 4 + 3 - i * 4 = 3 by omega]; rfl
/-- A row of entries. -/
def REn (w : World) (B : Nat) (A : Option Addr) (n : Nat) (l : List En) : Prop :=
  l.length = n ∧ (0 < n → ∃ b off, A = some ⟨b, off, none⟩ ∧ b < B ∧ ∀ (i : Nat) (t : En), l[i]? = some t → w.cell? ⟨b, off + i * 4, none⟩ = some (.int .i64 t.lab) ∧ w.cell? ⟨b, off + i * 4 + 1, none⟩ = some (.int .i64 t.cls) ∧ w.cell? ⟨b, off + i * 4 + 2, none⟩ = some (.int .i64 t.ttl) ∧ w.cell? ⟨b, off + i * 4 + 3, none⟩ = some (.bool t.last))
theorem REn.on {a b : World} {A : Option Addr} {n : Nat} {l : List En} (h : REn a a.heap.size A n l) (hb : Below a.heap.size a b) : REn b b.heap.size A n l := by
  refine ⟨h.1, fun hn => ?_⟩
  obtain ⟨c, off, hA, hc, hx⟩ := h.2 hn
  refine ⟨c, off, hA, Nat.lt_of_lt_of_le hc hb.size, fun i t ht => ?_⟩
  obtain ⟨h1, h2, h3, h4⟩ := hx i t ht
  exact ⟨(hb.cell (p := ⟨c, _, none⟩) hc).trans h1, (hb.cell (p := ⟨c, _, none⟩) hc).trans h2, (hb.cell (p := ⟨c, _, none⟩) hc).trans h3, (hb.cell (p := ⟨c, _, none⟩) hc).trans h4⟩
theorem own_ens {w : World} {base m : Nat} {v : Value} {l : List En} (h : w.ownsRow base 38 4 v m (ecells l)) (hl : l.length = m) : ∃ A cap, v = .slice A m cap ∧ m ≤ cap ∧ REn w w.heap.size A m l := by
  subst hl
  rcases Nat.eq_zero_or_pos l.length with h0 | h0
  · rcases h.2 with ⟨rfl, h1⟩ | ⟨g, cap, cur, rfl, _, _, h2, _⟩
    · exact ⟨none, 0, by rw [h0], by omega, rfl, fun h => by omega⟩
    · exact ⟨_, cap, rfl, by omega, rfl, fun h => by omega⟩
  · rcases h.2 with ⟨_, h1⟩ | ⟨g, cap, cur, rfl, _, hg, h2, _⟩
    · omega
    refine ⟨_, cap, rfl, h2, rfl, fun _ => ⟨g, 0, rfl, ?_, fun i e he => ?_⟩⟩
    · rcases Nat.lt_or_ge g w.heap.size with hlt | hge
      · exact hlt
      · rw [Array.getElem?_eq_none hge] at hg; cases hg
    obtain ⟨c0, c1, c2, c3⟩ := ecells_at he
    have k0 := h.cells (g := g) rfl (i * 4) _ c0
    have k1 := h.cells (g := g) rfl (i * 4 + 1) _ c1
    have k2 := h.cells (g := g) rfl (i * 4 + 2) _ c2
    have k3 := h.cells (g := g) rfl (i * 4 + 3) _ c3
    rw [Go.WideShapes.add_plain] at k0 k1 k2 k3
    exact ⟨k0, k1, k2, k3⟩
theorem ent_stood : Try.prog.stoodInHeld 38 = false := by kernel_rfl
theorem ent_ne (s : En) (W : World) : (binOp .neq 38 (.agg #[.int .i64 s.lab, .int .i64 s.cls, .int .i64 s.ttl, .bool s.last]) (.agg #[.int .i64 s.lab, .int .i64 s.cls, .int .i64 s.ttl, .bool s.last])).run Try.prog W = .ok (.bool false) W := by
  rw [run_neq_struct, run_equalIn_agg W 9999 38 _ _ (by simp [Program.fieldsOf, Try.underlying38]) ent_stood]
  simp [Program.fieldsOf, Try.underlying38, Op.eqFields, part, go_sem]
theorem entsUp_succ (l : List Sg) (ttl : Int) (k : Nat) : entsUp l ttl (k + 1) = entsUp l ttl k ++ [entAt l ttl k] := by
  unfold entsUp
  rw [List.range_succ, List.map_append]; rfl
theorem entsUp_len (l : List Sg) (ttl : Int) (k : Nat) : (entsUp l ttl k).length = k := by unfold entsUp; simp
theorem stack_good {l : List Sg} {ttl : Int} (h : ∀ (i : Nat) (s : Sg), l[i]? = some s → 0 ≤ labelS s) : stackS l ttl = entsUp l ttl l.length := by
  unfold stackS
  rw [if_pos]
  unfold goodL
  rw [List.all_eq_true]
  intro s hs
  obtain ⟨i, hi, he⟩ := List.mem_iff_getElem.1 hs
  exact decide_eq_true (h i s (by rw [← he]; exact List.getElem?_eq_getElem hi))
theorem stack_bad {l : List Sg} {ttl : Int} {i : Nat} {s : Sg} (h : l[i]? = some s) (hb : labelS s < 0) : stackS l ttl = [] := by
  unfold stackS
  rw [if_neg]
  unfold goodL
  rw [List.all_eq_true]
  intro h2
  have := of_decide_eq_true (h2 s (List.mem_of_getElem? h))
  omega
theorem segs_good {f : Int → Option Sg} {l : List En} (h : ∀ (i : Nat) (e : En), l[i]? = some e → (f e.lab).isSome = true) : segsS f l = some (l.map fun e => (f e.lab).getD noSg) := by
  unfold segsS
  rw [if_pos]
  rw [List.all_eq_true]
  intro s hs
  obtain ⟨i, hi, he⟩ := List.mem_iff_getElem.1 hs
  exact h i s (by rw [← he]; exact List.getElem?_eq_getElem hi)
theorem segs_bad {f : Int → Option Sg} {l : List En} {i : Nat} {e : En} (h : l[i]? = some e) (hb : f e.lab = none) : segsS f l = none := by
  unfold segsS
  rw [if_neg]
  rw [List.all_eq_true]
  intro h2
  have := h2 e (List.mem_of_getElem? h)
  rw [hb] at this
  cases this
end Go.Proofs.Ytjblhajmnlcfaaa
