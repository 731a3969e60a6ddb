/- Graphs: a link as data, what a slice of links reads as, what the chapter asks of a graph, the argument opened. -/
import Derived.Test.YtjblhajmnlcfaaaWdB
import Derived.Deep.Slices
import Derived.Deep.Fields
import Derived.ChangeSame
import Derived.ChangeOld
import Derived.OpenShut
import Derived.Lib.SmallJoins
namespace Go.Proofs.Ytjblhajmnlcfaaa
open Go.RowKit Go.ChangeShapes Go.WideShapes Go.Deep
set_option maxRecDepth 100000

section
variable {H : Type} {enc : TypeId × Value → H} {P : Program} {w : World} {base : Nat} {spare : Nat → Bool} {held : Bool}
theorem open_slice_fields {t e : TypeId} {fs : Array Field} {fuel : Nat} {cs : List Value} {x : DataW H × List MemPlace} (ht : P.underlying t = some (.slice e)) (he : P.underlying e = some (.struct fs))
    (hone : oneCellFields P fs = true) (hC : P.cellsOf e = fs.size) (h : DataW.trod enc P w base spare held fuel t cs = some x) :
    cs = [.slice none 0 0] ∨
    ∃ (a : Addr) (len cap m : Nat), cs = [.slice (some a) len cap] ∧ len ≤ cap ∧ cap ≤ maxLen ∧ len ≤ m ∧
      ∀ i, i < m → ∃ n : Nat, ∀ (j : Nat) (f : Field), fs[j]? = some f → ∃ (v : Value) (y : DataW H × List MemPlace), w.cell? (a.add (i * fs.size + j)) = some v ∧ DataW.trod enc P w base spare held n f.type [v] = some y := by
  rcases open_slice ht h with h0 | ⟨a, len, cap, m, n, D, Pl, hcs, hb, hl, hm, hmm, hx, hi⟩
  · exact .inl h0.1
  · refine .inr ⟨a, len, cap, m, hcs, hl, hm, by subst hmm; split <;> omega, fun i him => ?_⟩
    obtain ⟨cs', hc, ht'⟩ := hi i him
    rw [hC] at hc
    obtain ⟨ys, n', hn', hy, hlen, hyl, hf⟩ := DataW.trod_struct he ht'
    obtain ⟨_, hcl, hat⟩ := World.cells?_some hc
    refine ⟨n', fun j f hj => ?_⟩
    obtain ⟨ho, hk⟩ := hone_of hone j f hj
    have hjl : j < fs.size := (Array.getElem?_eq_some_iff.1 hj).1
    have hcell := hat j hjl
    have hv : cs'[j]? = some (cs'[j]'(by omega)) := List.getElem?_eq_getElem (by omega)
    have h1 := hf j f hj
    rw [ho, hk] at h1
    have hone' : (cs'.drop j).take 1 = [cs'[j]'(by omega)] := by
      rw [List.drop_eq_getElem_cons (by omega)]
      rfl
    rw [hone'] at h1
    have hys : ys[j]? = some (ys[j]'(by omega)) := List.getElem?_eq_getElem (by omega)
    refine ⟨_, _, ?_, h1.trans hys⟩
    rw [← Go.Deep.add_add, hcell, hv]
end
theorem cell_lt {w : World} {a : Addr} {v : Value} (h : w.cell? a = some v) : a.block < w.heap.size := by
  rcases Nat.lt_or_ge a.block w.heap.size with h1 | h1
  · exact h1
  · simp [World.cell?, Array.getElem?_eq_none h1] at h
structure Lnk where
  a : Int
  b : Int
  m : Int
  c : Int
instance : Inhabited Lnk := ⟨⟨0, 0, 0, 0⟩⟩
/-- A slice value with address A and length n reads as the rows l below block B. -/
def RLnk (w : World) (B : Nat) (A : Option Addr) (n : Nat) (l : List Lnk) : Prop :=
  l.length = n ∧ (0 < n → ∃ b off, A = some ⟨b, off, none⟩ ∧ b < B ∧ ∀ (i : Nat) (e : Lnk), l[i]? = some e → w.cell? ⟨b, off + i * 4, none⟩ = some (.int .i64 e.a) ∧ w.cell? ⟨b, off + i * 4 + 1, none⟩ = some (.int .i64 e.b) ∧ w.cell? ⟨b, off + i * 4 + 2, none⟩ = some (.int .i64 e.m) ∧ w.cell? ⟨b, off + i * 4 + 3, none⟩ = some (.int .i64 e.c))
theorem RLnk.below {w w' : World} {B n : Nat} {A : Option Addr} {l : List Lnk} (h : RLnk w B A n l) (hb : Below B w w') : RLnk w' B A n l := by
  refine ⟨h.1, fun hn => ?_⟩
  obtain ⟨b, off, hA, hB, hc⟩ := h.2 hn
  refine ⟨b, off, hA, hB, fun i e he => ?_⟩
  obtain ⟨h0, h1, h2, h3⟩ := hc i e he
  exact ⟨(hb.cell (p := ⟨b, _, none⟩) hB).trans h0, (hb.cell (p := ⟨b, _, none⟩) hB).trans h1, (hb.cell (p := ⟨b, _, none⟩) hB).trans h2, (hb.cell (p := ⟨b, _, none⟩) hB).trans h3⟩
theorem RLnk.more {w : World} {B B' n : Nat} {A : Option Addr} {l : List Lnk} (h : RLnk w B A n l) (hB : B ≤ B') : RLnk w B' A n l := by
  refine ⟨h.1, fun hn => ?_⟩
  obtain ⟨b, off, hA, hb, hc⟩ := h.2 hn
  exact ⟨b, off, hA, by omega, hc⟩
theorem RLnk.on {a b : World} {A : Option Addr} {n : Nat} {l : List Lnk} (h : RLnk a a.heap.size A n l) (hb : Below a.heap.size a b) : RLnk b b.heap.size A n l := (h.below hb).more hb.size
theorem open_lnks {H : Type} {enc : TypeId × Value → H} {w : World} {A : Option Addr} {len cap : Nat} {d : DataW H} {p : List MemPlace}
    (h : DataW.Trod enc Try.prog w 0 (fun _ => true) true 22 (.slice A len cap) d p) : ∃ l : List Lnk, RLnk w w.heap.size A len l ∧ len ≤ maxLen ∧ (A = none → len = 0 ∧ cap = 0) ∧ len ≤ cap := by
  obtain ⟨fuel, hf⟩ := h
  rcases open_slice_fields Try.underlying22 Try.underlying42 (by kernel_rfl) (by kernel_rfl) hf with h0 | ⟨a, len', cap', m, hcs, hl, hm, hlm, hi⟩
  · simp [Value.cells] at h0
    obtain ⟨rfl, rfl, rfl⟩ := h0
    exact ⟨[], ⟨rfl, fun h => by omega⟩, by unfold maxLen; omega, fun _ => ⟨rfl, rfl⟩, Nat.le_refl _⟩
  · simp [Value.cells] at hcs
    obtain ⟨rfl, rfl, rfl⟩ := hcs
    have hx : ∀ i, i < len → ∃ e : Lnk, w.cell? (a.add (i * 4 + 0)) = some (.int .i64 e.a) ∧ w.cell? (a.add (i * 4 + 1)) = some (.int .i64 e.b) ∧ w.cell? (a.add (i * 4 + 2)) = some (.int .i64 e.m) ∧ w.cell? (a.add (i * 4 + 3)) = some (.int .i64 e.c) := by
      intro i hi'
      obtain ⟨n, hf⟩ := hi i (by omega)
      obtain ⟨v0, y0, g0, t0⟩ := hf 0 _ rfl
      obtain ⟨v1, y1, g1, t1⟩ := hf 1 _ rfl
      obtain ⟨v2, y2, g2, t2⟩ := hf 2 _ rfl
      obtain ⟨v3, y3, g3, t3⟩ := hf 3 _ rfl
      obtain ⟨n0, e0, _, _⟩ := DataW.trod_int Try.underlying3 t0
      obtain ⟨n1, e1, _, _⟩ := DataW.trod_int Try.underlying3 t1
      obtain ⟨n2, e2, _, _⟩ := DataW.trod_int Try.underlying3 t2
      obtain ⟨n3, e3, _, _⟩ := DataW.trod_int Try.underlying3 t3
      simp only [List.cons.injEq, and_true] at e0 e1 e2 e3
      subst e0 e1 e2 e3
      exact ⟨⟨n0, n1, n2, n3⟩, g0, g1, g2, g3⟩
    obtain ⟨E, hE⟩ := choose_lt hx
    refine ⟨(List.range len).map E, ⟨by simp, fun hn => ?_⟩, by omega, fun h => (by cases h), hl⟩
    have hsp : a.spot = none := by
      have := World.cell?_spot (hE 0 hn).1
      simpa [Addr.add] using this
    obtain ⟨b, off, spot⟩ := a
    subst hsp
    have hb := cell_lt (hE 0 hn).1
    rw [Go.WideShapes.add_plain] at hb
    refine ⟨b, off, rfl, hb, fun i e he => ?_⟩
    simp only [List.getElem?_map, Option.map_eq_some_iff] at he
    obtain ⟨j, hj, rfl⟩ := he
    have hj2 : i < len := by
      have := (List.getElem?_eq_some_iff.1 hj).1
      simpa using this
    rw [List.getElem?_range hj2] at hj
    injection hj with hj
    subst hj
    obtain ⟨g0, g1, g2, g3⟩ := hE i hj2
    simp only [Go.WideShapes.add_plain] at g0 g1 g2 g3
    exact ⟨g0, by rw [Nat.add_assoc]; exact g1, by rw [Nat.add_assoc]; exact g2, by rw [Nat.add_assoc]; exact g3⟩
theorem open_graph {H : Type} {enc : TypeId × Value → H} {w : World} {r : Reach} {b0 : Nat} {v : Value} {d : DataW H} {p : List MemPlace} (hv : Value.okWide Try.prog w r b0 24 v)
    (h : DataW.Trod enc Try.prog w 0 (fun _ => true) true 24 v d p) : ∃ (nd : Int) (A : Option Addr) (n c : Nat) (l : List Lnk), v = .agg #[.int .i64 nd, .slice A n c] ∧ RLnk w w.heap.size A n l ∧ n ≤ maxLen ∧ (A = none → n = 0 ∧ c = 0) ∧ n ≤ c ∧ (Lit.int .i64 nd).wf = true := by
  obtain ⟨v0, v1, y0, y1, k, rfl, _, _, g0, g1⟩ := Go.Joins.open_agg2 Try.underlying24 (by kernel_rfl) (by kernel_rfl) hv h
  obtain ⟨nd, e0, _, hwf⟩ := DataW.trod_int Try.underlying3 g0
  simp only [List.cons.injEq, and_true] at e0
  subst e0
  rcases open_slice Try.underlying22 g1 with ⟨h0, _⟩ | ⟨a, len, cap, _, _, _, _, h0, _⟩
  · simp only [List.cons.injEq, and_true] at h0
    subst h0
    obtain ⟨l, hl⟩ := open_lnks (d := y1.1) (p := y1.2) ⟨k, g1⟩
    exact ⟨nd, none, 0, 0, l, rfl, hl.1, hl.2.1, hl.2.2.1, hl.2.2.2, hwf⟩
  · simp only [List.cons.injEq, and_true] at h0
    subst h0
    obtain ⟨l, hl⟩ := open_lnks (d := y1.1) (p := y1.2) ⟨k, g1⟩
    exact ⟨nd, _, _, _, l, rfl, hl.1, hl.2.1, hl.2.2.1, hl.2.2.2, hwf⟩
/-- What is wrong with a link (0: nothing). -/
def lnkErr (nd : Int) (x : Lnk) : Int :=
  if 0 ≤ x.a ∧ x.a < nd ∧ 0 ≤ x.b ∧ x.b < nd ∧ x.a ≠ x.b then (if 1 ≤ x.m ∧ x.m ≤ 16777216 ∧ 0 ≤ x.c ∧ x.c ≤ 62 then 0 else 1) else 4
/-- The first link that is wrong, from number i on. -/
def chk (nd : Int) : List Lnk → Nat → Int × Int
  | [], _ => (-1, 0)
  | x :: r, i => if lnkErr nd x = 0 then chk nd r (i + 1) else ((i : Int), lnkErr nd x)
def checkS (nd : Int) (l : List Lnk) : Int × Int :=
  if 120 < l.length then (-1, 6) else if nd < 1 ∨ 40 < nd then (-1, 1) else chk nd l 0
def endsS (l : List Lnk) (e : Int) : Int × Int × Bool :=
  if e < 0 then (0, 0, false) else
  match l[e.toNat / 2]? with
  | none => (0, 0, false)
  | some x => if e % 2 = 0 then (x.a, x.b, true) else (x.b, x.a, true)
def outS (l : List Lnk) (node : Int) (k : Nat) : List Int := ((List.range k).map (fun (i : Nat) => (i : Int))).filter (fun e => (endsS l e).1 == node)
def backS (e : Int) : Int := if e < 0 then -1 else if e % 2 = 0 then e + 1 else e - 1
theorem chk_step {nd : Int} {l : List Lnk} {i : Nat} {x : Lnk} (h : l[i]? = some x) : chk nd (l.drop i) i = if lnkErr nd x = 0 then chk nd (l.drop (i + 1)) (i + 1) else ((i : Int), lnkErr nd x) := by
  obtain ⟨hi, hx⟩ := List.getElem?_eq_some_iff.1 h
  rw [List.drop_eq_getElem_cons hi, hx]
  rfl
theorem outS_succ (l : List Lnk) (node : Int) (k : Nat) : outS l node (k + 1) = outS l node k ++ (if (endsS l k).1 = node then [(k : Int)] else []) := by
  unfold outS
  rw [List.range_succ, List.map_append, List.filter_append]
  by_cases h : (endsS l k).1 = node <;> simp [h]
theorem outS_len (l : List Lnk) (node : Int) (k : Nat) : (outS l node k).length ≤ k := by
  unfold outS
  exact Nat.le_trans (List.length_filter_le _ _) (by simp)
def icells (l : List Int) : List Value := l.map fun x => .int .i64 x
theorem icells_app (a b : List Int) : icells (a ++ b) = icells a ++ icells b := List.map_append
theorem icells_len (a : List Int) : (icells a).length = a.length := List.length_map _
theorem icells_one (l : List Int) : ∀ u ∈ icells l, u.oneCell' = true := by
  intro u hu
  simp only [icells, List.mem_map] at hu
  obtain ⟨b, _, rfl⟩ := hu
  rfl
/-- A slice value reads as the numbers l below block B. -/
def RInt (w : World) (B : Nat) (A : Option Addr) (n : Nat) (l : List Int) : Prop :=
  l.length = n ∧ (0 < n → ∃ b off, A = some ⟨b, off, none⟩ ∧ b < B ∧ ∀ (i : Nat) (x : Int), l[i]? = some x → w.cell? ⟨b, off + i, none⟩ = some (.int .i64 x))
theorem RInt.below {w w' : World} {B n : Nat} {A : Option Addr} {l : List Int} (h : RInt w B A n l) (hb : Below B w w') : RInt w' B A n l := by
  refine ⟨h.1, fun hn => ?_⟩
  obtain ⟨b, off, hA, hB, hc⟩ := h.2 hn
  exact ⟨b, off, hA, hB, fun i e he => (hb.cell (p := ⟨b, _, none⟩) hB).trans (hc i e he)⟩
theorem RInt.more {w : World} {B B' n : Nat} {A : Option Addr} {l : List Int} (h : RInt w B A n l) (hB : B ≤ B') : RInt w B' A n l := by
  refine ⟨h.1, fun hn => ?_⟩
  obtain ⟨b, off, hA, hb, hc⟩ := h.2 hn
  exact ⟨b, off, hA, by omega, hc⟩
theorem own_ints {w : World} {base m : Nat} {v : Value} {l : List Int} (h : w.ownsRow base 3 1 v m (icells l)) (hl : l.length = m) : ∃ A cap, v = .slice A m cap ∧ m ≤ cap ∧ RInt w w.heap.size A m l := by
  subst hl
  rcases Nat.eq_zero_or_pos l.length with h0 | h0
  · rcases h.2 with ⟨rfl, h1⟩ | ⟨g, cap, cur, rfl, _, _, h2, _⟩
    · exact ⟨none, 0, by rw [h0], by omega, rfl, fun h => by omega⟩
    · exact ⟨_, cap, rfl, by omega, rfl, fun h => by omega⟩
  · rcases h.2 with ⟨_, h1⟩ | ⟨g, cap, cur, rfl, _, hg, h2, _⟩
    · omega
    refine ⟨_, cap, rfl, h2, rfl, fun _ => ⟨g, 0, rfl, ?_, fun i e he => ?_⟩⟩
    · rcases Nat.lt_or_ge g w.heap.size with hlt | hge
      · exact hlt
      · rw [Array.getElem?_eq_none hge] at hg; cases hg
    have k1 := h.cells (g := g) rfl i (.int .i64 e) (by simp [icells, he])
    rw [Go.WideShapes.add_plain] at k1
    exact k1
end Go.Proofs.Ytjblhajmnlcfaaa
