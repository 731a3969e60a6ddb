/- Cut out of WgA WgB WgC SpA SpB PrA WoC PlA PlB PlC PlD PlE PlF PlG PlH PlI PlJ. -/
import Derived.Test.YtcmkcloapenpnaaDoorWdB
import Derived.Test.YtcmkcloapenpnaaDoorWdT
import Derived.Test.YtcmkcloapenpnaaDoorWoA
import Derived.Test.YtcmkcloapenpnaaDoorWoB
import Derived.Test.YtcmkcloapenpnaaDoorPfA
import Derived.Test.YtcmkcloapenpnaaDoorPfB
import Derived.Test.YtcmkcloapenpnaaDoorPfC
import Derived.Test.YtcmkcloapenpnaaDoorPfE
import Derived.Test.YtcmkcloapenpnaaDoorPnA
import Derived.Deep.Slices
import Derived.Deep.Fields
import Derived.ChangeSame
import Derived.ChangeOld
import Derived.OpenShut
import Derived.Lib.SmallJoins
import Derived.OwnWalk
import Derived.Laws.BitsAllLaws
import Derived.Laws.MakeOwn
import Derived.Deep.Grids
import Derived.Deep.RegionLaw
import Derived.Deep.RegionWith
import Derived.Deep.DeepCutAuto
import Derived.StillTailTactics
import Derived.Deep.WholeRow
import Derived.Deep.CutRange
namespace Go.Proofs.YtcmkcloapenpnaaDoor
open Go.ChangeShapes Go.Deep Go.RowKit Go.WideShapes
set_option maxHeartbeats 12800000
set_option maxRecDepth 100000
section
variable {H : Type} {enc : TypeId × Value → H} {P : Program} {w : World} {base : Nat} {spare : Nat → Bool} {held : Bool}
theorem open_slice_fields {t e : TypeId} {fs : Array Field} {fuel : Nat} {cs : List Value} {x : DataW H × List MemPlace} (ht : P.underlying t = some (.slice e)) (he : P.underlying e = some (.struct fs))
    (hone : oneCellFields P fs = true) (hC : P.cellsOf e = fs.size) (h : DataW.trod enc P w base spare held fuel t cs = some x) :
    cs = [.slice none 0 0] ∨
    ∃ (a : Addr) (len cap m : Nat), cs = [.slice (some a) len cap] ∧ len ≤ cap ∧ cap ≤ maxLen ∧ len ≤ m ∧
      ∀ i, i < m → ∃ n : Nat, ∀ (j : Nat) (f : Field), fs[j]? = some f → ∃ (v : Value) (y : DataW H × List MemPlace), w.cell? (a.add (i * fs.size + j)) = some v ∧ DataW.trod enc P w base spare held n f.type [v] = some y := by
  rcases open_slice ht h with h0 | ⟨a, len, cap, m, n, D, Pl, hcs, hb, hl, hm, hmm, hx, hi⟩
  · exact .inl h0.1
  · refine .inr ⟨a, len, cap, m, hcs, hl, hm, by subst hmm; split <;> omega, fun i him => ?_⟩
    obtain ⟨cs', hc, ht'⟩ := hi i him
    rw [hC] at hc
    obtain ⟨ys, n', hn', hy, hlen, hyl, hf⟩ := DataW.trod_struct he ht'
    obtain ⟨_, hcl, hat⟩ := World.cells?_some hc
    refine ⟨n', fun j f hj => ?_⟩
    obtain ⟨ho, hk⟩ := hone_of hone j f hj
    have hjl : j < fs.size := (Array.getElem?_eq_some_iff.1 hj).1
    have hcell := hat j hjl
    have hv : cs'[j]? = some (cs'[j]'(by omega)) := List.getElem?_eq_getElem (by omega)
    have h1 := hf j f hj
    rw [ho, hk] at h1
    have hone' : (cs'.drop j).take 1 = [cs'[j]'(by omega)] := by
      rw [List.drop_eq_getElem_cons (by omega)]
      rfl
    rw [hone'] at h1
    have hys : ys[j]? = some (ys[j]'(by omega)) := List.getElem?_eq_getElem (by omega)
    refine ⟨_, _, ?_, h1.trans hys⟩
    rw [← Go.Deep.add_add, hcell, hv]
end
theorem cell_lt {w : World} {a : Addr} {v : Value} (h : w.cell? a = some v) : a.block < w.heap.size := by
  rcases Nat.lt_or_ge a.block w.heap.size with h1 | h1
  · exact h1
  · simp [World.cell?, Array.getElem?_eq_none h1] at h
structure Lnk where
  a : Int
  b : Int
  m : Int
  c : Int
instance : Inhabited Lnk := ⟨⟨0, 0, 0, 0⟩⟩
/-- A slice value with address A and length n reads as the rows l below block B. -/
def RLnk (w : World) (B : Nat) (A : Option Addr) (n : Nat) (l : List Lnk) : Prop :=
  l.length = n ∧ (0 < n → ∃ b off, A = some ⟨b, off, none⟩ ∧ b < B ∧ ∀ (i : Nat) (e : Lnk), l[i]? = some e → w.cell? ⟨b, off + i * 4, none⟩ = some (.int .i64 e.a) ∧ w.cell? ⟨b, off + i * 4 + 1, none⟩ = some (.int .i64 e.b) ∧ w.cell? ⟨b, off + i * 4 + 2, none⟩ = some (.int .i64 e.m) ∧ w.cell? ⟨b, off + i * 4 + 3, none⟩ = some (.int .i64 e.c))
theorem RLnk.below {w w' : World} {B n : Nat} {A : Option Addr} {l : List Lnk} (h : RLnk w B A n l) (hb : Below B w w') : RLnk w' B A n l := by
  refine ⟨h.1, fun hn => ?_⟩
  obtain ⟨b, off, hA, hB, hc⟩ := h.2 hn
  refine ⟨b, off, hA, hB, fun i e he => ?_⟩
  obtain ⟨h0, h1, h2, h3⟩ := hc i e he
  exact ⟨(hb.cell (p := ⟨b, _, none⟩) hB).trans h0, (hb.cell (p := ⟨b, _, none⟩) hB).trans h1, (hb.cell (p := ⟨b, _, none⟩) hB).trans h2, (hb.cell (p := ⟨b, _, none⟩) hB).trans h3⟩
theorem RLnk.more {w : World} {B B' n : Nat} {A : Option Addr} {l : List Lnk} (h : RLnk w B A n l) (hB : B ≤ B') : RLnk w B' A n l := by
  refine ⟨h.1, fun hn => ?_⟩
  obtain ⟨b, off, hA, hb, hc⟩ := h.2 hn
  exact ⟨b, off, hA, by omega, hc⟩
theorem RLnk.on {a b : World} {A : Option Addr} {n : Nat} {l : List Lnk} (h : RLnk a a.heap.size A n l) (hb : Below a.heap.size a b) : RLnk b b.heap.size A n l := (h.below hb).more hb.size
/-- What is wrong with a link (0: nothing). -/
def lnkErr (nd : Int) (x : Lnk) : Int :=
  if 0 ≤ x.a ∧ x.a < nd ∧ 0 ≤ x.b ∧ x.b < nd ∧ x.a ≠ x.b then (if 1 ≤ x.m ∧ x.m ≤ 16777216 ∧ 0 ≤ x.c ∧ x.c ≤ 62 then 0 else 1) else 4
/-- The first link that is wrong, from number i on. -/
def chk (nd : Int) : List Lnk → Nat → Int × Int
  | [], _ => (-1, 0)
  | x :: r, i => if lnkErr nd x = 0 then chk nd r (i + 1) else ((i : Int), lnkErr nd x)
def checkS (nd : Int) (l : List Lnk) : Int × Int :=
  if 120 < l.length then (-1, 6) else if nd < 1 ∨ 40 < nd then (-1, 1) else chk nd l 0
def endsS (l : List Lnk) (e : Int) : Int × Int × Bool :=
  if e < 0 then (0, 0, false) else
  match l[e.toNat / 2]? with
  | none => (0, 0, false)
  | some x => if e % 2 = 0 then (x.a, x.b, true) else (x.b, x.a, true)
def outS (l : List Lnk) (node : Int) (k : Nat) : List Int := ((List.range k).map (fun (i : Nat) => (i : Int))).filter (fun e => (endsS l e).1 == node)
def backS (e : Int) : Int := if e < 0 then -1 else if e % 2 = 0 then e + 1 else e - 1
theorem chk_step {nd : Int} {l : List Lnk} {i : Nat} {x : Lnk} (h : l[i]? = some x) : chk nd (l.drop i) i = if lnkErr nd x = 0 then chk nd (l.drop (i + 1)) (i + 1) else ((i : Int), lnkErr nd x) := by
  obtain ⟨hi, hx⟩ := List.getElem?_eq_some_iff.1 h
  rw [List.drop_eq_getElem_cons hi, hx]
  rfl
theorem outS_succ (l : List Lnk) (node : Int) (k : Nat) : outS l node (k + 1) = outS l node k ++ (if (endsS l k).1 = node then [(k : Int)] else []) := by
  unfold outS
  rw [List.range_succ, List.map_append, List.filter_append]
  by_cases h : (endsS l k).1 = node <;> simp [h]
theorem outS_len (l : List Lnk) (node : Int) (k : Nat) : (outS l node k).length ≤ k := by
  unfold outS
  exact Nat.le_trans (List.length_filter_le _ _) (by simp)
def icells (l : List Int) : List Value := l.map fun x => .int .i64 x
theorem icells_app (a b : List Int) : icells (a ++ b) = icells a ++ icells b := List.map_append
theorem icells_len (a : List Int) : (icells a).length = a.length := List.length_map _
theorem icells_one (l : List Int) : ∀ u ∈ icells l, u.oneCell' = true := by
  intro u hu
  simp only [icells, List.mem_map] at hu
  obtain ⟨b, _, rfl⟩ := hu
  rfl
/-- A slice value reads as the numbers l below block B. -/
def RInt (w : World) (B : Nat) (A : Option Addr) (n : Nat) (l : List Int) : Prop :=
  l.length = n ∧ (0 < n → ∃ b off, A = some ⟨b, off, none⟩ ∧ b < B ∧ ∀ (i : Nat) (x : Int), l[i]? = some x → w.cell? ⟨b, off + i, none⟩ = some (.int .i64 x))
theorem RInt.below {w w' : World} {B n : Nat} {A : Option Addr} {l : List Int} (h : RInt w B A n l) (hb : Below B w w') : RInt w' B A n l := by
  refine ⟨h.1, fun hn => ?_⟩
  obtain ⟨b, off, hA, hB, hc⟩ := h.2 hn
  exact ⟨b, off, hA, hB, fun i e he => (hb.cell (p := ⟨b, _, none⟩) hB).trans (hc i e he)⟩
theorem RInt.more {w : World} {B B' n : Nat} {A : Option Addr} {l : List Int} (h : RInt w B A n l) (hB : B ≤ B') : RInt w B' A n l := by
  refine ⟨h.1, fun hn => ?_⟩
  obtain ⟨b, off, hA, hb, hc⟩ := h.2 hn
  exact ⟨b, off, hA, by omega, hc⟩
theorem own_ints {w : World} {base m : Nat} {v : Value} {l : List Int} (h : w.ownsRow base 3 1 v m (icells l)) (hl : l.length = m) : ∃ A cap, v = .slice A m cap ∧ m ≤ cap ∧ RInt w w.heap.size A m l := by
  subst hl
  rcases Nat.eq_zero_or_pos l.length with h0 | h0
  · rcases h.2 with ⟨rfl, h1⟩ | ⟨g, cap, cur, rfl, _, _, h2, _⟩
    · exact ⟨none, 0, by rw [h0], by omega, rfl, fun h => by omega⟩
    · exact ⟨_, cap, rfl, by omega, rfl, fun h => by omega⟩
  · rcases h.2 with ⟨_, h1⟩ | ⟨g, cap, cur, rfl, _, hg, h2, _⟩
    · omega
    refine ⟨_, cap, rfl, h2, rfl, fun _ => ⟨g, 0, rfl, ?_, fun i e he => ?_⟩⟩
    · rcases Nat.lt_or_ge g w.heap.size with hlt | hge
      · exact hlt
      · rw [Array.getElem?_eq_none hge] at hg; cases hg
    have k1 := h.cells (g := g) rfl i (.int .i64 e) (by simp [icells, he])
    rw [Go.WideShapes.add_plain] at k1
    exact k1
theorem wf_i64 {a : Int} (h : (Lit.int .i64 a).wf = true) : -9223372036854775808 ≤ a ∧ a ≤ 9223372036854775807 := by
  simp only [Lit.wf, Bool.and_eq_true, decide_eq_true_eq] at h
  have h1 : IntKind.i64.min = -9223372036854775808 := rfl
  have h2 : IntKind.i64.max = 9223372036854775807 := rfl
  rw [h1, h2] at h
  exact h
theorem endsS_none {l : List Lnk} {e : Nat} (h : l.length ≤ e / 2) : endsS l e = (0, 0, false) := by
  unfold endsS
  rw [if_neg (by omega), show (Int.toNat (e : Int)) = e by omega, List.getElem?_eq_none h]
theorem endsS_some {l : List Lnk} {e : Nat} {x : Lnk} (h : l[e / 2]? = some x) : endsS l e = if e % 2 = 0 then (x.a, x.b, true) else (x.b, x.a, true) := by
  unfold endsS
  rw [if_neg (by omega), show (Int.toNat (e : Int)) = e by omega, h]
  simp only
  by_cases h2 : e % 2 = 0
  · rw [if_pos h2, if_pos (by omega)]
  · rw [if_neg h2, if_neg (by omega)]
theorem nat_xor_one (e : Nat) : e ^^^ 1 = if e % 2 = 0 then e + 1 else e - 1 := by
  have h1 : (e ^^^ 1) / 2 = e / 2 := by rw [Nat.xor_div_two]; simp
  have h2 : (e ^^^ 1) % 2 = 1 ↔ ¬(e % 2 = 1 ↔ 1 % 2 = 1) := Nat.xor_mod_two_eq_one
  split <;> omega
theorem xor_one (e : Nat) (h : e < 9223372036854775808) : bits .xor .i64 (e : Int) 1 = if e % 2 = 0 then (e : Int) + 1 else (e : Int) - 1 := by
  have hx : e ^^^ 1 < 2 ^ 63 := Nat.xor_lt_two_pow (by omega) (by omega)
  have h1 : bits .xor .i64 (e : Int) ((1 : Nat) : Int) = ((e ^^^ 1 : Nat) : Int) := by
    show IntKind.i64.wrap ((BitVec.ofInt 64 (e : Int) ^^^ BitVec.ofInt 64 ((1 : Nat) : Int)).toNat : Int) = _
    rw [BitVec.toNat_xor, ofInt_u64 e (by omega), ofInt_u64 1 (by omega), IntKind.wrap_i64]
    omega
  refine h1.trans ?_
  rw [nat_xor_one]
  split <;> omega
theorem below_drewN {B n : Nat} {a w : World} (h : Below B a w) : Below B a (w.drewN n) := ⟨h.os, h.tape, h.output, h.size, h.block⟩
theorem checkS_ok {nd : Int} {l : List Lnk} (h : (checkS nd l).2 = 0) : l.length ≤ 120 ∧ 1 ≤ nd ∧ nd ≤ 40 ∧ (chk nd l 0).2 = 0 := by
  unfold checkS at h
  split at h
  · simp at h
  · split at h
    · simp at h
    · exact ⟨by omega, by omega, by omega, h⟩
theorem ways_facts {l : List Lnk} {k : Nat} (h : k < 2 * l.length) : ∃ (a b : Int) (r : Nat), endsS l (k : Int) = (a, b, true) ∧ endsS l (r : Int) = (b, a, true) ∧ backS (k : Int) = (r : Int) ∧ backS (r : Int) = (k : Int) ∧ r / 2 = k / 2 := by
  obtain ⟨x, hx⟩ : ∃ x, l[k / 2]? = some x := ⟨l[k / 2]'(by omega), List.getElem?_eq_getElem _⟩
  have h1 := endsS_some hx
  rcases Nat.mod_two_eq_zero_or_one k with hm | hm
  · have hq : (k + 1) / 2 = k / 2 := by omega
    have h2 := endsS_some (e := k + 1) (hq ▸ hx)
    rw [if_pos hm] at h1
    rw [if_neg (by omega)] at h2
    refine ⟨_, _, k + 1, h1, h2, ?_, ?_, hq⟩
    · unfold backS; rw [if_neg (by omega), if_pos (by omega)]; omega
    · unfold backS; rw [if_neg (by omega), if_neg (by omega)]; omega
  · obtain ⟨j, rfl⟩ : ∃ j, k = j + 1 := ⟨k - 1, by omega⟩
    have hq : j / 2 = (j + 1) / 2 := by omega
    have h2 := endsS_some (e := j) (by rw [hq]; exact hx)
    rw [if_neg (by omega)] at h1
    rw [if_pos (by omega)] at h2
    refine ⟨_, _, j, h1, h2, ?_, ?_, hq⟩
    · unfold backS; rw [if_neg (by omega), if_neg (by omega)]; omega
    · unfold backS; rw [if_neg (by omega), if_pos (by omega)]; omega
theorem mem_outS {l : List Lnk} {node : Int} {m : Nat} {x : Int} : x ∈ outS l node m ↔ ∃ i : Nat, i < m ∧ x = (i : Int) ∧ (endsS l (i : Int)).1 = node := by
  unfold outS
  simp only [List.mem_filter, List.mem_map, List.mem_range, beq_iff_eq]
  constructor
  · rintro ⟨⟨i, hi, rfl⟩, h⟩; exact ⟨i, hi, rfl, h⟩
  · rintro ⟨i, hi, rfl, h⟩; exact ⟨⟨i, hi, rfl⟩, h⟩
theorem mem_take_succ {L : List Int} {j : Nat} {x k : Int} (h : L[j]? = some x) : k ∈ L.take (j + 1) ↔ k ∈ L.take j ∨ x = k := by
  obtain ⟨hj, hx⟩ := List.getElem?_eq_some_iff.1 h
  rw [List.take_succ_eq_append_getElem hj, List.mem_append, hx]
  simp [eq_comm]
theorem not_mem_step {p q r : Prop} (h : p ↔ q ∨ r) (hq : false = true ↔ q) (hr : ¬r) : false = true ↔ p := by
  rw [h]
  constructor
  · intro h; cases h
  · rintro (h | h)
    · exact hq.2 h
    · exact absurd h hr
theorem size_alloc_eq (w : World) (o : Obj) : (w.alloc o).heap.size = w.heap.size + 1 := by simp
theorem int_row (x : Int) : #[Value.int .i64 x] = (icells [x]).toArray := rfl
theorem RInt.on {a b : World} {A : Option Addr} {n : Nat} {l : List Int} (h : RInt a a.heap.size A n l) (hb : Below a.heap.size a b) : RInt b b.heap.size A n l := (h.below hb).more hb.size
theorem own_shape {w : World} {base e size n : Nat} {v : Value} {xs : List Value} (h : w.ownsRow base e size v n xs) : ∃ A c, v = .slice A n c := by
  rcases h.2 with ⟨rfl, rfl⟩ | ⟨g, cap, cur, rfl, _⟩
  · exact ⟨_, _, rfl⟩
  · exact ⟨_, _, rfl⟩
theorem own_form {w : World} {base e size n : Nat} {v : Value} {xs : List Value} (h : w.ownsRow base e size v n xs) : ∃ A c, v = .slice A n c := by
  rcases h.2 with ⟨rfl, rfl⟩ | ⟨g, cap, cur, rfl, _⟩
  · exact ⟨_, _, rfl⟩
  · exact ⟨_, _, rfl⟩
theorem own_ri {w : World} {base m c : Nat} {A : Option Addr} {l : List Int} (h : w.ownsRow base 3 1 (.slice A m c) m (icells l)) (hl : l.length = m) : RInt w w.heap.size A m l := by
  obtain ⟨A', cap', hv, _, hr⟩ := own_ints h hl
  simp only [Value.slice.injEq] at hv
  obtain ⟨rfl, _, _⟩ := hv
  exact hr
def lcells (l : List Lnk) : List Value := l.flatMap fun x => [.int .i64 x.a, .int .i64 x.b, .int .i64 x.m, .int .i64 x.c]
theorem lcells_app (a b : List Lnk) : lcells (a ++ b) = lcells a ++ lcells b := List.flatMap_append
theorem lcells_one (l : List Lnk) : ∀ u ∈ lcells l, u.oneCell' = true := by
  intro u hu
  simp only [lcells, List.mem_flatMap] at hu
  obtain ⟨e, _, hu⟩ := hu
  simp at hu
  rcases hu with rfl | rfl | rfl | rfl <;> rfl
theorem lcells_at {l : List Lnk} {i : Nat} {e : Lnk} (h : l[i]? = some e) : (lcells l)[i * 4]? = some (.int .i64 e.a) ∧ (lcells l)[i * 4 + 1]? = some (.int .i64 e.b) ∧ (lcells l)[i * 4 + 2]? = some (.int .i64 e.m) ∧ (lcells l)[i * 4 + 3]? = some (.int .i64 e.c) := by
  induction l generalizing i with
  | nil => simp at h
  | cons a r ih =>
    simp only [lcells, List.flatMap_cons]
    cases i with
    | zero => simp at h; subst h; simp
    | succ i =>
      have := ih (i := i) (by simpa using h)
      rw [List.getElem?_append_right (by simp; omega), List.getElem?_append_right (by simp; omega), List.getElem?_append_right (by simp; omega), List.getElem?_append_right (by simp; omega)]
      have hl : [Value.int .i64 a.a, .int .i64 a.b, .int .i64 a.m, .int .i64 a.c].length = 4 := rfl
      rw [hl, show (i + 1) * 4 - 4 = i * 4 by omega, show (i + 1) * 4 + 1 - 4 = i * 4 + 1 by omega, show (i + 1) * 4 + 2 - 4 = i * 4 + 2 by omega, show (i + 1) * 4 + 3 - 4 = i * 4 + 3 by omega]
      exact this
theorem chk_rep {nd : Int} {x : Lnk} (h : lnkErr nd x = 0) (k i : Nat) : chk nd (List.replicate k x) i = (-1, 0) := by
  induction k generalizing i with
  | zero => rfl
  | succ k ih => rw [List.replicate_succ]; simp only [chk]; rw [if_pos h]; exact ih (i + 1)
theorem rep_len (k : Nat) (x : Lnk) : (List.replicate k x).length = k := List.length_replicate
theorem box_app {wr w4 : World} {B base e s n : Nat} {v : Value} {xs : List Value} {o X : Obj} (hbox : wr.heap[B]? = some X) (hB : B < base) (hown : wr.ownsRow base e s v n xs) (hg : (wr.alloc o).grownBy w4 v.ownBlock) : w4.heap[B]? = some X := by
  have hlt : B < wr.heap.size := by
    rcases Nat.lt_or_ge B wr.heap.size with h1 | h1
    · exact h1
    · rw [Array.getElem?_eq_none h1] at hbox; cases hbox
  refine (hg.block B (by simp; omega) (fun h => ?_)).trans (((Below.alloc (Below.refl wr.heap.size wr) (Nat.le_refl _) o).block B hlt).trans hbox)
  have := (hown.lt B h.symm).1
  omega
theorem below_app {w1 wr w4 : World} {base e s n : Nat} {v : Value} {xs : List Value} {o : Obj} (h : Below w1.heap.size w1 wr) (hb : w1.heap.size ≤ base) (hown : wr.ownsRow base e s v n xs) (hg : (wr.alloc o).grownBy w4 v.ownBlock) : Below w1.heap.size w1 w4 :=
  Below.grown (h.alloc h.size o) hg (by have := h.size; simp; omega) (fun q hq => Nat.le_trans hb (hown.lt q hq).1)
/-- Block G is a row of N bools: H. -/
def BRow (w : World) (G N : Nat) (H : Nat → Bool) : Prop := ∃ cs : Array Value, w.heap[G]? = some (.cells cs 4 (0, 0)) ∧ cs.size = N ∧ ∀ e, e < N → cs[e]? = some (.bool (H e))
theorem BRow.lt {w : World} {G N : Nat} {H : Nat → Bool} (h : BRow w G N H) : G < w.heap.size := by
  obtain ⟨cs, hb, _⟩ := h
  rcases Nat.lt_or_ge G w.heap.size with h1 | h1
  · exact h1
  · rw [Array.getElem?_eq_none h1] at hb; cases hb
theorem BRow.cell {w : World} {G N e : Nat} {H : Nat → Bool} (h : BRow w G N H) (he : e < N) : w.cell? ⟨G, e, none⟩ = some (.bool (H e)) := by
  obtain ⟨cs, hb, _, hc⟩ := h
  rw [cell_of_row _ _ _ _ _ _ hb]
  exact hc e he
theorem BRow.frozen {w : World} {G N : Nat} {H : Nat → Bool} (h : BRow w G N H) (e : Nat) : w.frozen? ⟨G, e, none⟩ = false := by
  obtain ⟨cs, hb, _⟩ := h
  exact frozen_of_row _ _ _ _ _ hb
theorem BRow.below {w w' : World} {G N k : Nat} {H : Nat → Bool} (h : BRow w G N H) (hb : Below k w w') (hk : G < k) : BRow w' G N H := by
  obtain ⟨cs, h1, h2⟩ := h
  exact ⟨cs, box_below h1 hb hk, h2⟩
theorem BRow.on {w w' : World} {G N : Nat} {H : Nat → Bool} (h : BRow w G N H) (hb : Below w.heap.size w w') : BRow w' G N H := h.below hb h.lt
theorem BRow.congr {w : World} {G N : Nat} {H H' : Nat → Bool} (h : BRow w G N H) (he : ∀ e, e < N → H' e = H e) : BRow w G N H' := by
  obtain ⟨cs, h1, h2, h3⟩ := h
  exact ⟨cs, h1, h2, fun e hl => by rw [h3 e hl, he e hl]⟩
theorem BRow.set {w : World} {G N e : Nat} {H : Nat → Bool} (h : BRow w G N H) (b : Bool) : BRow (w.setCell ⟨G, e, none⟩ (.bool b)) G N (fun j => if j = e then b else H j) := by
  obtain ⟨cs, h1, h2, h3⟩ := h
  refine ⟨_, heap_setCell_same w G e cs _ _ h1, by simpa using h2, fun j hj => ?_⟩
  rw [Array.getElem?_setIfInBounds]
  by_cases hje : e = j
  · subst hje; simp [h2, hj]
  · rw [if_neg hje, h3 j hj]
    show some (Value.bool (H j)) = some (Value.bool (if j = e then b else H j))
    rw [if_neg (fun h => hje h.symm)]
theorem BRow.drewN {w : World} {G N : Nat} {H : Nat → Bool} (h : BRow w G N H) (k : Nat) : BRow (w.drewN k) G N H := h
theorem BRow.made {w : World} {base G N : Nat} (h : w.ownsRow base 4 1 (.slice (some ⟨G, 0, none⟩) N N) N (madeCells (Value.bool false).cells (N * 1)).toList) : BRow w G N (fun _ => false) := by
  rcases h.2 with ⟨h1, _⟩ | ⟨g, cap, cur, h1, _, hg, _, _, h4, h5⟩
  · cases h1
  · simp only [Value.slice.injEq, Option.some.injEq, Addr.mk.injEq] at h1
    obtain ⟨⟨rfl, _⟩, _, rfl⟩ := h1
    refine ⟨cur, hg, by omega, fun e he => ?_⟩
    have h6 : cur.toList = List.replicate N (Value.bool false) := by
      rw [List.take_of_length_le (by simp; omega)] at h5
      rw [h5, Nat.mul_one, show (Value.bool false).cells = #[Value.bool false] from rfl, toList_madeCells_one]
    rw [← Array.getElem?_toList, h6]
    simp [he]
/-- Where an edge begins. -/
def frm (l : List Lnk) (e : Nat) : Int := (endsS l (e : Int)).1
/-- How many of the first N edges begin at a node below i. -/
def cntB (l : List Lnk) (i : Int) : Nat → Nat
  | 0 => 0
  | N + 1 => cntB l i N + if frm l N < i then 1 else 0
theorem cntB_succ (l : List Lnk) (i : Int) (N : Nat) : cntB l (i + 1) N = cntB l i N + (outS l i N).length := by
  induction N with
  | zero => rfl
  | succ N ih =>
    rw [outS_succ, List.length_append]
    simp only [cntB, ih]
    have hf : (endsS l (N : Int)).1 = frm l N := rfl
    rw [hf]
    rcases (show frm l N < i ∨ frm l N = i ∨ i < frm l N by omega) with h | h | h
    · rw [if_pos (by omega), if_pos h, if_neg (by omega)]; simp; omega
    · rw [if_pos (by omega), if_neg (by omega), if_pos h]; simp; omega
    · rw [if_neg (by omega), if_neg (by omega), if_neg (by omega)]; simp
theorem cntB_le (l : List Lnk) (i : Int) (N : Nat) : cntB l i N ≤ N := by
  induction N with
  | zero => exact Nat.le_refl _
  | succ N ih => simp only [cntB]; split <;> omega
theorem cntB_zero {l : List Lnk} {i : Int} {N : Nat} (h : ∀ e, e < N → i ≤ frm l e) : cntB l i N = 0 := by
  induction N with
  | zero => rfl
  | succ N ih => simp only [cntB]; rw [ih (fun e he => h e (by omega)), if_neg (by have := h N (by omega); omega)]
theorem cntB_all {l : List Lnk} {i : Int} {N : Nat} (h : ∀ e, e < N → frm l e < i) : cntB l i N = N := by
  induction N with
  | zero => rfl
  | succ N ih => simp only [cntB]; rw [ih (fun e he => h e (by omega)), if_pos (h N (by omega))]
theorem outS_none {l : List Lnk} {i : Int} {N : Nat} (h : ∀ e, e < N → frm l e ≠ i) : outS l i N = [] := by
  rcases List.eq_nil_or_concat (outS l i N) with h0 | ⟨r, x, h0⟩
  · exact h0
  · have : x ∈ outS l i N := by rw [h0]; simp
    obtain ⟨e, he, _, hf⟩ := mem_outS.1 this
    exact absurd hf (h e he)
theorem outS_sorted (l : List Lnk) (i : Int) (N : Nat) : (outS l i N).Pairwise (· < ·) := by
  unfold outS
  refine List.Pairwise.filter _ ?_
  exact List.pairwise_map.2 (List.Pairwise.imp (fun {a b} h => by omega) List.pairwise_lt_range)
theorem sorted_at {L : List Int} (h : L.Pairwise (· < ·)) {i j : Nat} {x y : Int} (hi : L[i]? = some x) (hj : L[j]? = some y) (hij : i < j) : x < y := by
  obtain ⟨h1, rfl⟩ := List.getElem?_eq_some_iff.1 hi
  obtain ⟨h2, rfl⟩ := List.getElem?_eq_some_iff.1 hj
  exact List.pairwise_iff_getElem.1 h i j h1 h2 hij
theorem sorted_not_before {L : List Int} (h : L.Pairwise (· < ·)) {k : Nat} {x : Int} (hk : L[k]? = some x) : x ∉ L.take k := by
  intro hm
  obtain ⟨j, hj, hx⟩ := List.getElem_of_mem hm
  rw [List.length_take] at hj
  have h1 : L[j]? = some x := by
    rw [List.getElem_take] at hx
    rw [List.getElem?_eq_getElem (by omega), hx]
  have := sorted_at h h1 hk (by omega)
  omega
theorem chk_all {nd : Int} {l : List Lnk} {i : Nat} (h : (chk nd l i).2 = 0) : ∀ x ∈ l, lnkErr nd x = 0 := by
  induction l generalizing i with
  | nil => intro x hx; cases hx
  | cons a r ih =>
    simp only [chk] at h
    split at h
    · intro x hx
      rcases List.mem_cons.1 hx with rfl | hx
      · assumption
      · exact ih h x hx
    · exact absurd h ‹_›
theorem frm_range {nd : Int} {l : List Lnk} (h : (chk nd l 0).2 = 0) {e : Nat} (he : e < 2 * l.length) : 0 ≤ frm l e ∧ frm l e < nd := by
  obtain ⟨x, hx⟩ : ∃ x, l[e / 2]? = some x := ⟨l[e / 2]'(by omega), List.getElem?_eq_getElem _⟩
  have h1 := chk_all h x (List.mem_of_getElem? hx)
  have h2 := endsS_some hx
  unfold lnkErr at h1
  split at h1
  · rename_i h3
    unfold frm
    rw [h2]
    split
    · exact ⟨h3.1, h3.2.1⟩
    · exact ⟨h3.2.2.1, h3.2.2.2.1⟩
  · cases h1
/-- What the next edge of a node's row is. -/
theorem row_next {l : List Lnk} {i : Int} {N k : Nat} {x : Int} (h : (outS l i N)[k]? = some x) : ∃ e : Nat, x = (e : Int) ∧ e < N ∧ frm l e = i ∧ (e : Int) ∉ (outS l i N).take k := by
  obtain ⟨e, he, rfl, hf⟩ := mem_outS.1 (List.mem_of_getElem? h)
  exact ⟨e, rfl, he, hf, sorted_not_before (outS_sorted l i N) h⟩
/-- What is marked: the edges of the nodes below i, and the first k of node i. -/
def marks (l : List Lnk) (i : Int) (N k : Nat) (e : Nat) : Bool := decide (frm l e < i) || decide ((e : Int) ∈ (outS l i N).take k)
theorem marks_new {l : List Lnk} {i : Int} {N k e : Nat} (hf : frm l e = i) (hm : (e : Int) ∉ (outS l i N).take k) : marks l i N k e = false := by
  simp [marks, hf, hm]
theorem marks_step {l : List Lnk} {i : Int} {N k e : Nat} (h : (outS l i N)[k]? = some (e : Int)) (j : Nat) : marks l i N (k + 1) j = if j = e then true else marks l i N k j := by
  unfold marks
  have h1 := mem_take_succ (k := (j : Int)) h
  by_cases hj : j = e
  · subst hj
    rw [if_pos rfl, decide_eq_true (h1.2 (.inr rfl))]; simp
  · rw [if_neg hj]
    congr 1
    rw [decide_eq_decide, h1]
    exact ⟨fun h => h.elim id (fun h => absurd h (by omega)), .inl⟩
theorem marks_end {l : List Lnk} {i : Int} {N m j : Nat} (hm : (outS l i N).length = m) (hj : j < N) : marks l (i + 1) N 0 j = marks l i N m j := by
  unfold marks
  rw [List.take_zero, List.take_of_length_le (show (outS l i N).length ≤ m by omega)]
  by_cases h : frm l j = i
  · rw [decide_eq_true (by omega), decide_eq_true (mem_outS.2 ⟨j, hj, rfl, h⟩)]; simp
  · have hn : (j : Int) ∉ outS l i N := by
      intro hmem
      obtain ⟨e, _, he, hf⟩ := mem_outS.1 hmem
      have : e = j := by omega
      subst this
      exact h hf
    rw [decide_eq_false hn]
    simp
    omega
theorem marks_zero {l : List Lnk} {N j : Nat} (h : 0 ≤ frm l j) : marks l 0 N 0 j = false := by
  simp [marks]; omega
/-- What Out answers. -/
def OutAns (l : List Lnk) (node : Int) (w : World) (e : Ending) (w' : World) : Prop :=
  ∃ v, e = .returned v ∧ w'.ownsRow w.heap.size 3 1 v (outS l node (2 * l.length)).length (icells (outS l node (2 * l.length))) ∧ Below w.heap.size w w'
def isDn (dn : List Bool) (i : Nat) : Bool := dn.getD i false
def tov (l : List Lnk) (k : Nat) : Int := (endsS l (k : Int)).2.1
def met (l : List Lnk) (k : Nat) : Int := (l.getD (k / 2) default).m
def dAt (d : List Int) (v : Int) : Int := d.getD v.toNat (-1)
/-- A graph as Check wants it. -/
def GOk (nd : Nat) (l : List Lnk) : Prop := l.length ≤ 120 ∧ 1 ≤ nd ∧ nd ≤ 40 ∧ (chk (nd : Int) l 0).2 = 0
theorem edge_facts {nd : Nat} {l : List Lnk} (h : GOk nd l) {k : Nat} (hk : k < 2 * l.length) : ∃ (a b : Nat) (x : Lnk), l[k / 2]? = some x ∧ endsS l (k : Int) = ((a : Int), (b : Int), true) ∧ frm l k = (a : Int) ∧ tov l k = (b : Int) ∧ met l k = x.m ∧ a < nd ∧ b < nd ∧ a ≠ b ∧ 1 ≤ x.m ∧ x.m ≤ 16777216 := by
  obtain ⟨x, hx⟩ : ∃ x, l[k / 2]? = some x := ⟨l[k / 2]'(by omega), List.getElem?_eq_getElem _⟩
  have h1 := chk_all h.2.2.2 x (List.mem_of_getElem? hx)
  have h2 := endsS_some hx
  have hm : met l k = x.m := by unfold met; rw [List.getD_eq_getElem?_getD, hx]; rfl
  unfold lnkErr at h1
  split at h1
  · rename_i h3
    obtain ⟨ha, ha', hb, hb', hab⟩ := h3
    split at h1
    · rename_i h4
      obtain ⟨a, ha2⟩ := Int.eq_ofNat_of_zero_le ha
      obtain ⟨b, hb2⟩ := Int.eq_ofNat_of_zero_le hb
      unfold frm tov
      rw [h2]
      rcases Nat.mod_two_eq_zero_or_one k with hk2 | hk2
      · rw [if_pos hk2]
        exact ⟨a, b, x, hx, by rw [ha2, hb2], ha2, hb2, hm, by omega, by omega, by omega, h4.1, h4.2.1⟩
      · rw [if_neg (by omega)]
        exact ⟨b, a, x, hx, by rw [ha2, hb2], hb2, ha2, hm, by omega, by omega, by omega, h4.1, h4.2.1⟩
    · cases h1
  · cases h1
/-- What P701 asks of a row of distances from s. -/
structure DistOk (nd : Nat) (l : List Lnk) (dn : List Bool) (s : Nat) (d : List Int) : Prop where
  len : d.length = nd
  src : dAt d (s : Int) = 0
  low : ∀ v : Nat, v < nd → -1 ≤ dAt d (v : Int)
  clo : ∀ k, k < 2 * l.length → isDn dn (k / 2) = false → 0 ≤ dAt d (frm l k) → 0 ≤ dAt d (tov l k) ∧ dAt d (tov l k) ≤ dAt d (frm l k) + met l k
  via : ∀ v : Nat, v < nd → v ≠ s → 0 ≤ dAt d (v : Int) → ∃ k, k < 2 * l.length ∧ isDn dn (k / 2) = false ∧ tov l k = (v : Int) ∧ 0 ≤ dAt d (frm l k) ∧ dAt d (v : Int) = dAt d (frm l k) + met l k
theorem dist_le {nd : Nat} {l : List Lnk} {dn : List Bool} {s : Nat} {d d' : List Int} (hg : GOk nd l) (h : DistOk nd l dn s d) (h' : DistOk nd l dn s d') :
    ∀ (N : Nat) (v : Nat), v < nd → 0 ≤ dAt d (v : Int) → dAt d (v : Int) ≤ (N : Int) → 0 ≤ dAt d' (v : Int) ∧ dAt d' (v : Int) ≤ dAt d (v : Int) := by
  intro N
  induction N with
  | zero =>
    intro v hv h0 h1
    by_cases hs : v = s
    · subst hs; rw [h'.src]; omega
    · obtain ⟨k, hk, _, ht, hf, he⟩ := h.via v hv hs h0
      obtain ⟨a, b, x, _, _, hfa, _, hm, _, _, _, hm1, _⟩ := edge_facts hg hk
      omega
  | succ N ih =>
    intro v hv h0 h1
    by_cases hs : v = s
    · subst hs; rw [h'.src]; omega
    · obtain ⟨k, hk, hu, ht, hf, he⟩ := h.via v hv hs h0
      obtain ⟨a, b, x, _, _, hfa, _, hm, ha, _, _, hm1, _⟩ := edge_facts hg hk
      rw [hfa] at hf he
      obtain ⟨i1, i2⟩ := ih a ha hf (by omega)
      have := h'.clo k hk hu (by rw [hfa]; exact i1)
      rw [ht, hfa] at this
      omega
theorem dist_unique {nd : Nat} {l : List Lnk} {dn : List Bool} {s : Nat} {d d' : List Int} (hg : GOk nd l) (h : DistOk nd l dn s d) (h' : DistOk nd l dn s d') : d = d' := by
  refine List.ext_getElem (by rw [h.len, h'.len]) fun i h1 h2 => ?_
  have hi : i < nd := by rw [← h.len]; exact h1
  have e1 : dAt d (i : Int) = d[i] := by unfold dAt; rw [List.getD_eq_getElem?_getD, Int.toNat_natCast, List.getElem?_eq_getElem h1]; rfl
  have e2 : dAt d' (i : Int) = d'[i] := by unfold dAt; rw [List.getD_eq_getElem?_getD, Int.toNat_natCast, List.getElem?_eq_getElem h2]; rfl
  rw [← e1, ← e2]
  have l1 := h.low i hi
  have l2 := h'.low i hi
  by_cases c1 : 0 ≤ dAt d (i : Int)
  · have a := dist_le hg h h' (dAt d (i : Int)).toNat i hi c1 (by omega)
    have b := dist_le hg h' h (dAt d' (i : Int)).toNat i hi a.1 (by omega)
    omega
  · by_cases c2 : 0 ≤ dAt d' (i : Int)
    · have b := dist_le hg h' h (dAt d' (i : Int)).toNat i hi c2 (by omega)
      omega
    · omega
/-- The row of distances, if there is one. -/
noncomputable def distS (nd : Nat) (l : List Lnk) (dn : List Bool) (s : Nat) : List Int := open Classical in if h : ∃ d, DistOk nd l dn s d then Classical.choose h else []
theorem distS_eq {nd : Nat} {l : List Lnk} {dn : List Bool} {s : Nat} {d : List Int} (hg : GOk nd l) (h : DistOk nd l dn s d) : distS nd l dn s = d := by
  have he : ∃ d, DistOk nd l dn s d := ⟨d, h⟩
  unfold distS
  rw [dif_pos he]
  exact dist_unique hg (Classical.choose_spec he) h
/-- What From and To answer. -/
noncomputable def fromS (nd : Int) (l : List Lnk) (dn : List Bool) (s : Int) : List Int := if (checkS nd l).2 = 0 ∧ 0 ≤ s ∧ s < nd then distS nd.toNat l dn s.toNat else []
theorem gok_of {nd : Nat} {l : List Lnk} (h : (checkS (nd : Int) l).2 = 0) : GOk nd l := by
  obtain ⟨h1, h2, h3, h4⟩ := checkS_ok h
  exact ⟨h1, by omega, by omega, h4⟩

/-! ### Edge by edge -/
def lab : List Int → Nat
  | [] => 0
  | x :: r => lab r + if x < 0 then 0 else 1
def pot (x : Int) : Nat := if x < 0 then 687865856 else x.toNat
def sumP : List Int → Nat
  | [] => 0
  | x :: r => sumP r + pot x
theorem lab_le (d : List Int) : lab d ≤ d.length := by
  induction d with
  | nil => exact Nat.le_refl _
  | cons x r ih => simp only [lab, List.length_cons]; split <;> omega
theorem lab_set {d : List Int} {i : Nat} {x y : Int} (h : d[i]? = some y) (hx : 0 ≤ x) : lab (d.set i x) = lab d + if y < 0 then 1 else 0 := by
  induction d generalizing i with
  | nil => simp at h
  | cons a r ih =>
    cases i with
    | zero =>
      simp at h; subst h
      simp only [List.set_cons_zero, lab]
      rw [if_neg (show ¬x < 0 by omega)]
      split <;> omega
    | succ i =>
      simp only [List.set_cons_succ, lab]
      rw [ih (by simpa using h)]
      omega
theorem sumP_set {d : List Int} {i : Nat} {x y : Int} (h : d[i]? = some y) (hx : pot x < pot y) : sumP (d.set i x) < sumP d := by
  induction d generalizing i with
  | nil => simp at h
  | cons a r ih =>
    cases i with
    | zero => simp at h; subst h; simp only [List.set_cons_zero, sumP]; omega
    | succ i => simp only [List.set_cons_succ, sumP]; have := ih (i := i) (by simpa using h); omega
theorem lab_pos {d : List Int} {i : Nat} (h : d[i]? = some 0) : 1 ≤ lab d := by
  induction d generalizing i with
  | nil => simp at h
  | cons a r ih =>
    cases i with
    | zero => simp at h; subst h; simp [lab]
    | succ i => simp only [lab]; have := ih (i := i) (by simpa using h); omega
theorem dAt_get {d : List Int} {v : Nat} (h : v < d.length) : d[v]? = some (dAt d (v : Int)) := by
  unfold dAt
  rw [List.getD_eq_getElem?_getD, Int.toNat_natCast, List.getElem?_eq_getElem h]
  rfl
theorem dAt_set {d : List Int} {b v : Nat} {x : Int} (h : b < d.length) : dAt (d.set b x) (v : Int) = if v = b then x else dAt d (v : Int) := by
  unfold dAt
  rw [List.getD_eq_getElem?_getD, List.getD_eq_getElem?_getD, Int.toNat_natCast, List.getElem?_set]
  by_cases hv : b = v
  · subst hv; simp [h]
  · rw [if_neg hv, if_neg (fun e => hv e.symm)]
/-- What holds while edges are looked at. -/
structure PInv (nd : Nat) (l : List Lnk) (dn : List Bool) (s : Nat) (d : List Int) : Prop where
  len : d.length = nd
  src : dAt d (s : Int) = 0
  low : ∀ v : Nat, v < nd → -1 ≤ dAt d (v : Int)
  via : ∀ v : Nat, v < nd → v ≠ s → 0 ≤ dAt d (v : Int) → ∃ k, k < 2 * l.length ∧ isDn dn (k / 2) = false ∧ tov l k = (v : Int) ∧ 0 ≤ dAt d (frm l k) ∧ dAt d (frm l k) + met l k ≤ dAt d (v : Int)
  top : ∀ v : Nat, v < nd → dAt d (v : Int) + 16777216 ≤ (lab d : Int) * 16777216
def cloAt (l : List Lnk) (dn : List Bool) (d : List Int) (k : Nat) : Prop := isDn dn (k / 2) = false → 0 ≤ dAt d (frm l k) → 0 ≤ dAt d (tov l k) ∧ dAt d (tov l k) ≤ dAt d (frm l k) + met l k
theorem PInv.done {nd : Nat} {l : List Lnk} {dn : List Bool} {s : Nat} {d : List Int} (h : PInv nd l dn s d) (hc : ∀ k, k < 2 * l.length → cloAt l dn d k) : DistOk nd l dn s d := by
  refine ⟨h.len, h.src, h.low, hc, fun v hv hs h0 => ?_⟩
  obtain ⟨k, hk, hu, ht, hf, he⟩ := h.via v hv hs h0
  have := (hc k hk hu hf).2
  rw [ht] at this
  exact ⟨k, hk, hu, ht, hf, by omega⟩
theorem PInv.start {nd : Nat} {l : List Lnk} {dn : List Bool} {s : Nat} (hs : s < nd) : PInv nd l dn s ((List.replicate nd (-1 : Int)).set s 0) := by
  have hr : ∀ v : Nat, dAt (List.replicate nd (-1 : Int)) (v : Int) = -1 := by
    intro v
    unfold dAt
    rw [List.getD_eq_getElem?_getD, Int.toNat_natCast]
    rcases Nat.lt_or_ge v nd with h | h
    · rw [List.getElem?_replicate, if_pos h]; rfl
    · rw [List.getElem?_eq_none (by simpa using h)]; rfl
  have hd : ∀ v : Nat, dAt ((List.replicate nd (-1 : Int)).set s 0) (v : Int) = if v = s then 0 else -1 := by
    intro v
    rw [dAt_set (by simpa using hs), hr]
  have hl : lab ((List.replicate nd (-1 : Int)).set s 0) ≥ 1 := by
    refine lab_pos (i := s) ?_
    rw [List.getElem?_set, if_pos rfl, if_pos (by simpa using hs)]
  refine ⟨by simp, by rw [hd, if_pos rfl], fun v _ => by rw [hd]; split <;> omega, fun v _ hv h0 => ?_, fun v _ => ?_⟩
  · rw [hd, if_neg hv] at h0; omega
  · rw [hd]; split <;> omega
theorem PInv.bound {nd : Nat} {l : List Lnk} {dn : List Bool} {s : Nat} {d : List Int} (h : PInv nd l dn s d) (hnd : nd ≤ 40) {v : Nat} (hv : v < nd) : -1 ≤ dAt d (v : Int) ∧ dAt d (v : Int) ≤ 654311424 := by
  have h1 := h.low v hv
  have h2 := h.top v hv
  have h3 := lab_le d
  rw [h.len] at h3
  omega
/-- An edge that makes a node nearer. -/
theorem PInv.relax {nd : Nat} {l : List Lnk} {dn : List Bool} {s : Nat} {d : List Int} (hg : GOk nd l) (h : PInv nd l dn s d) {k a b : Nat} {m : Int} (hk : k < 2 * l.length) (hu : isDn dn (k / 2) = false) (hf : frm l k = (a : Int)) (ht : tov l k = (b : Int)) (hm : met l k = m)
    (ha : a < nd) (hb : b < nd) (hab : a ≠ b) (hm1 : 1 ≤ m) (hm2 : m ≤ 16777216) (h0 : 0 ≤ dAt d (a : Int)) (hn : dAt d (b : Int) < 0 ∨ dAt d (a : Int) + m < dAt d (b : Int)) :
    PInv nd l dn s (d.set b (dAt d (a : Int) + m)) ∧ sumP (d.set b (dAt d (a : Int) + m)) < sumP d := by
  have hbl : b < d.length := by rw [h.len]; exact hb
  have hs : b ≠ s := by rintro rfl; rw [h.src] at hn; omega
  have hv : ∀ v : Nat, dAt (d.set b (dAt d (a : Int) + m)) (v : Int) = if v = b then dAt d (a : Int) + m else dAt d (v : Int) := fun v => dAt_set hbl
  have htop := h.top a ha
  have hlow := h.low b hb
  have hlab := lab_set (x := dAt d (a : Int) + m) (dAt_get hbl) (by omega)
  have hle : ∀ v : Nat, v < nd → 0 ≤ dAt d (v : Int) → 0 ≤ dAt (d.set b (dAt d (a : Int) + m)) (v : Int) ∧ dAt (d.set b (dAt d (a : Int) + m)) (v : Int) ≤ dAt d (v : Int) := by
    intro v hv1 hv2
    rw [hv]
    split
    · subst v; omega
    · omega
  refine ⟨⟨by rw [List.length_set]; exact h.len, by rw [hv, if_neg (fun e => hs e.symm)]; exact h.src, fun v hv1 => by rw [hv]; split; omega; exact h.low v hv1, fun v hv1 hvs hv0 => ?_, fun v hv1 => ?_⟩, ?_⟩
  · by_cases hvb : v = b
    · subst hvb
      refine ⟨k, hk, hu, ht, ?_, ?_⟩
      · rw [hf, hv, if_neg hab]; exact h0
      · rw [hf, hv, if_neg hab, hv, if_pos rfl, hm]; omega
    · rw [hv, if_neg hvb] at hv0 ⊢
      obtain ⟨k', hk', hu', ht', hf', he'⟩ := h.via v hv1 hvs hv0
      obtain ⟨a', _, _, _, _, hfa', _, _, ha', _⟩ := edge_facts hg hk'
      rw [hfa'] at hf' he'
      have := hle a' ha' hf'
      refine ⟨k', hk', hu', ht', ?_, ?_⟩
      · rw [hfa']; exact this.1
      · rw [hfa']; omega
  · rw [hlab, hv]
    have := h.top v hv1
    by_cases hvb : v = b
    · subst hvb
      rw [if_pos rfl]
      split <;> omega
    · rw [if_neg hvb]
      split <;> omega
  · refine sumP_set (dAt_get hbl) ?_
    have hb1 := (h.bound hg.2.2.1 ha).2
    unfold pot
    rw [if_neg (by omega)]
    split <;> omega
theorem cloAt_no {l : List Lnk} {dn : List Bool} {d : List Int} {k a b : Nat} {m : Int} (hf : frm l k = (a : Int)) (ht : tov l k = (b : Int)) (hm : met l k = m) (h : dAt d (a : Int) < 0 ∨ isDn dn (k / 2) = true ∨ (0 ≤ dAt d (b : Int) ∧ dAt d (b : Int) ≤ dAt d (a : Int) + m)) : cloAt l dn d k := by
  intro hu h0
  rw [hf] at h0
  rw [ht, hf, hm]
  rcases h with h | h | h
  · omega
  · rw [hu] at h; cases h
  · exact h
/-- A slice value reads as the bools l below block B. -/
def RBl (w : World) (B : Nat) (A : Option Addr) (n : Nat) (l : List Bool) : Prop :=
  l.length = n ∧ (0 < n → ∃ b off, A = some ⟨b, off, none⟩ ∧ b < B ∧ ∀ (i : Nat) (x : Bool), l[i]? = some x → w.cell? ⟨b, off + i, none⟩ = some (.bool x))
theorem RBl.below {w w' : World} {B n : Nat} {A : Option Addr} {l : List Bool} (h : RBl w B A n l) (hb : Below B w w') : RBl w' B A n l := by
  refine ⟨h.1, fun hn => ?_⟩
  obtain ⟨b, off, hA, hB, hc⟩ := h.2 hn
  exact ⟨b, off, hA, hB, fun i e he => (hb.cell (p := ⟨b, _, none⟩) hB).trans (hc i e he)⟩
theorem RBl.more {w : World} {B B' n : Nat} {A : Option Addr} {l : List Bool} (h : RBl w B A n l) (hB : B ≤ B') : RBl w B' A n l := by
  refine ⟨h.1, fun hn => ?_⟩
  obtain ⟨b, off, hA, hb, hc⟩ := h.2 hn
  exact ⟨b, off, hA, by omega, hc⟩
theorem RBl.on {a b : World} {A : Option Addr} {n : Nat} {l : List Bool} (h : RBl a a.heap.size A n l) (hb : Below a.heap.size a b) : RBl b b.heap.size A n l := (h.below hb).more hb.size
theorem open_bls {H : Type} {enc : TypeId × Value → H} {w : World} {A : Option Addr} {len cap : Nat} {d : DataW H} {p : List MemPlace}
    (h : DataW.Trod enc Tryd.prog w 0 (fun _ => true) true 39 (.slice A len cap) d p) : ∃ l : List Bool, RBl w w.heap.size A len l ∧ len ≤ maxLen ∧ (A = none → len = 0 ∧ cap = 0) ∧ len ≤ cap := by
  obtain ⟨fuel, hf⟩ := h
  rcases open_bools Tryd.underlying39 Tryd.underlying4 (by kernel_rfl) hf with ⟨hcs, _⟩ | ⟨a, len, c, bs, hcs, _, hl, hm, _, hcell⟩
  · simp [Value.cells] at hcs
    obtain ⟨rfl, rfl, rfl⟩ := hcs
    exact ⟨[], ⟨rfl, fun h => by omega⟩, by unfold maxLen; omega, fun _ => ⟨rfl, rfl⟩, Nat.le_refl _⟩
  · simp [Value.cells] at hcs
    obtain ⟨rfl, rfl, rfl⟩ := hcs
    refine ⟨(List.range len).map bs, ⟨by simp, fun hn => ?_⟩, by omega, fun h => (by cases h), hl⟩
    have hsp : a.spot = none := by
      have := World.cell?_spot (hcell 0 (by omega))
      simpa [Addr.add] using this
    obtain ⟨b, off, spot⟩ := a
    subst hsp
    have hb := cell_lt (hcell 0 (by omega))
    rw [Go.WideShapes.add_plain] at hb
    refine ⟨b, off, rfl, hb, fun i x hx => ?_⟩
    simp only [List.getElem?_map, Option.map_eq_some_iff] at hx
    obtain ⟨j, hj, rfl⟩ := hx
    have hj2 : i < len := by
      have := (List.getElem?_eq_some_iff.1 hj).1
      simpa using this
    rw [List.getElem?_range hj2] at hj
    injection hj with hj
    subst hj
    have := hcell i (by omega)
    rw [Go.WideShapes.add_plain] at this
    exact this
theorem open_nms {H : Type} {enc : TypeId × Value → H} {w : World} {A : Option Addr} {len cap : Nat} {d : DataW H} {p : List MemPlace}
    (h : DataW.Trod enc Tryd.prog w 0 (fun _ => true) true 41 (.slice A len cap) d p) : ∃ l : List Int, RInt w w.heap.size A len l ∧ (∀ x ∈ l, -9223372036854775808 ≤ x ∧ x ≤ 9223372036854775807) ∧ len ≤ maxLen ∧ (A = none → len = 0 ∧ cap = 0) ∧ len ≤ cap := by
  obtain ⟨fuel, hf⟩ := h
  rcases open_ints Tryd.underlying41 Tryd.underlying3 (by kernel_rfl) hf with ⟨hcs, _⟩ | ⟨a, len, c, zs, hcs, _, hl, hm, hz, _, hcell, hwz⟩
  · simp [Value.cells] at hcs
    obtain ⟨rfl, rfl, rfl⟩ := hcs
    exact ⟨[], ⟨rfl, fun h => by omega⟩, by simp, by unfold maxLen; omega, fun _ => ⟨rfl, rfl⟩, Nat.le_refl _⟩
  · simp [Value.cells] at hcs
    obtain ⟨rfl, rfl, rfl⟩ := hcs
    simp only [if_true] at hz
    have hw : ∀ x ∈ zs, -9223372036854775808 ≤ x ∧ x ≤ 9223372036854775807 := by
      intro x hx
      have hw := hwz x hx
      simp only [Lit.wf, Bool.and_eq_true, decide_eq_true_eq] at hw
      have h1 : IntKind.i64.min = -9223372036854775808 := rfl
      have h2 : IntKind.i64.max = 9223372036854775807 := rfl
      rw [h1, h2] at hw
      exact hw
    refine ⟨zs.take len, ⟨by rw [List.length_take]; omega, fun hn => ?_⟩, fun x hx => hw x (List.mem_of_mem_take hx), by omega, fun h => (by cases h), hl⟩
    have hsp : a.spot = none := by
      have := World.cell?_spot (hcell 0 (by omega))
      simpa [Addr.add] using this
    obtain ⟨b, off, spot⟩ := a
    subst hsp
    have hb := cell_lt (hcell 0 (by omega))
    rw [Go.WideShapes.add_plain] at hb
    refine ⟨b, off, rfl, hb, fun i x hx => ?_⟩
    rw [List.getElem?_take] at hx
    split at hx
    · have := hcell i (by have := (List.getElem?_eq_some_iff.1 hx).1; omega)
      rw [Go.WideShapes.add_plain] at this
      rw [this, List.getD_eq_getElem?_getD, hx]; rfl
    · cases hx
/-- Block G is the row d. -/
def IRow (w : World) (G : Nat) (d : List Int) : Prop := w.heap[G]? = some (.cells (icells d).toArray 3 (0, 0))
theorem IRow.lt {w : World} {G : Nat} {d : List Int} (h : IRow w G d) : G < w.heap.size := by
  rcases Nat.lt_or_ge G w.heap.size with h1 | h1
  · exact h1
  · have h2 : w.heap[G]? = _ := h
    rw [Array.getElem?_eq_none h1] at h2; cases h2
theorem IRow.cell {w : World} {G i : Nat} {x : Int} {d : List Int} (h : IRow w G d) (hx : d[i]? = some x) : w.cell? ⟨G, i, none⟩ = some (.int .i64 x) := by
  rw [cell_of_row _ _ _ _ _ _ h]
  simp [icells, hx]
theorem IRow.frozen {w : World} {G : Nat} {d : List Int} (h : IRow w G d) (i : Nat) : w.frozen? ⟨G, i, none⟩ = false := frozen_of_row _ _ _ _ _ h
theorem IRow.on {w w' : World} {G : Nat} {d : List Int} (h : IRow w G d) (hb : Below w.heap.size w w') : IRow w' G d := box_below h hb h.lt
theorem IRow.set {w : World} {G i : Nat} {d : List Int} (h : IRow w G d) (x : Int) : IRow (w.setCell ⟨G, i, none⟩ (.int .i64 x)) G (d.set i x) := by
  have h1 := heap_setCell_same w G i _ _ (.int .i64 x) h
  unfold IRow
  rw [h1]
  simp [icells, List.map_set]
theorem IRow.drewN {w : World} {G : Nat} {d : List Int} (h : IRow w G d) (k : Nat) : IRow (w.drewN k) G d := h
theorem IRow.made {w : World} {base G N : Nat} (h : w.ownsRow base 3 1 (.slice (some ⟨G, 0, none⟩) N N) N (madeCells (Value.int .i64 0).cells (N * 1)).toList) : IRow w G (List.replicate N 0) := by
  rcases h.2 with ⟨h1, _⟩ | ⟨g, cap, cur, h1, _, hg, _, _, h4, h5⟩
  · cases h1
  · simp only [Value.slice.injEq, Option.some.injEq, Addr.mk.injEq] at h1
    obtain ⟨⟨rfl, _⟩, _, rfl⟩ := h1
    have h6 : cur.toList = List.replicate N (Value.int .i64 0) := by
      rw [List.take_of_length_le (by simp; omega)] at h5
      rw [h5, Nat.mul_one, show (Value.int .i64 0).cells = #[Value.int .i64 0] from rfl, toList_madeCells_one]
    unfold IRow
    rw [hg]
    have h7 : cur = (icells (List.replicate N 0)).toArray := by
      rw [← Array.toArray_toList (xs := cur), h6]
      simp [icells]
    rw [h7]
theorem IRow.owned {w : World} {base G N : Nat} {d : List Int} (h : IRow w G d) (hl : d.length = N) (hb : base ≤ G) (hN : N ≤ maxLen) : w.ownsRow base 3 1 (.slice (some ⟨G, 0, none⟩) N N) N (icells d) := by
  refine ⟨by rw [icells_len, hl, Nat.mul_one], .inr ⟨G, N, _, rfl, hb, h, Nat.le_refl _, hN, by simp [icells, hl], ?_⟩⟩
  rw [List.take_of_length_le (by simp [icells, hl])]
/-- The potential of block G. -/
def potW (w : World) (G : Nat) : Nat := match w.heap[G]? with
  | some (.cells cs _ _) => sumP (cs.toList.map intOf)
  | _ => 0
theorem IRow.pot {w : World} {G : Nat} {d : List Int} (h : IRow w G d) : potW w G = sumP d := by
  have h' : w.heap[G]? = some (.cells (icells d).toArray 3 (0, 0)) := h
  unfold potW
  rw [h']
  simp only [icells, List.map_map]
  congr 1
  exact (List.map_congr_left (fun x _ => rfl)).trans (List.map_id _)
/-- What a want says. -/
structure Wnt where
  frm : Int
  too : Int
  bnd : Int
  via : List Int
  nds : List Int
  lks : List Int
  cls : List Int
/-- Where its lists lie. -/
structure WSl where
  av : Option Addr
  nv : Nat
  cv : Nat
  an : Option Addr
  nn : Nat
  cn : Nat
  al : Option Addr
  nl : Nat
  cl : Nat
  ac : Option Addr
  nc : Nat
  cc : Nat
/-- A list of numbers as a call gets it. -/
structure LArg (w : World) (A : Option Addr) (n c : Nat) (l : List Int) : Prop where
  row : RInt w w.heap.size A n l
  cap : n ≤ c
  non : A = none → n = 0 ∧ c = 0
  max : n ≤ maxLen
  rng : ∀ x ∈ l, -9223372036854775808 ≤ x ∧ x ≤ 9223372036854775807
theorem LArg.on {w w' : World} {A : Option Addr} {n c : Nat} {l : List Int} (h : LArg w A n c l) (hb : Below w.heap.size w w') : LArg w' A n c l := ⟨(h.row.below hb).more hb.size, h.cap, h.non, h.max, h.rng⟩
structure WArg (w : World) (x : Wnt) (y : WSl) : Prop where
  via : LArg w y.av y.nv y.cv x.via
  nds : LArg w y.an y.nn y.cn x.nds
  lks : LArg w y.al y.nl y.cl x.lks
  cls : LArg w y.ac y.nc y.cc x.cls
  rng : -9223372036854775808 ≤ x.bnd ∧ x.bnd ≤ 9223372036854775807
theorem WArg.on {w w' : World} {x : Wnt} {y : WSl} (h : WArg w x y) (hb : Below w.heap.size w w') : WArg w' x y := ⟨h.via.on hb, h.nds.on hb, h.lks.on hb, h.cls.on hb, h.rng⟩
theorem array7 {cs : Array Value} (h : cs.size = 7) : ∃ a b c d e f g, cs = #[a, b, c, d, e, f, g] := by
  obtain ⟨l⟩ := cs
  match l, h with
  | [a, b, c, d, e, f, g], _ => exact ⟨a, b, c, d, e, f, g, rfl⟩
theorem open_larg {H : Type} {enc : TypeId × Value → H} {w : World} {k : Nat} {v : Value} {y : DataW H × List MemPlace}
    (h : DataW.trod enc Tryd.prog w 0 (fun _ => true) true k 41 [v] = some y) : ∃ (A : Option Addr) (n c : Nat) (l : List Int), v = .slice A n c ∧ LArg w A n c l := by
  have key : ∀ (A : Option Addr) (n c : Nat), v = .slice A n c → ∃ (A : Option Addr) (n c : Nat) (l : List Int), v = .slice A n c ∧ LArg w A n c l := by
    intro A n c hv
    subst hv
    obtain ⟨l, h1, h2, h3, h4, h5⟩ := open_nms (d := y.1) (p := y.2) ⟨k, h⟩
    exact ⟨A, n, c, l, rfl, h1, h5, h4, h3, h2⟩
  rcases open_slice Tryd.underlying41 h with ⟨h0, _⟩ | ⟨a, len, cap, _, _, _, _, h0, _⟩
  · simp only [List.cons.injEq, and_true] at h0
    exact key _ _ _ h0
  · simp only [List.cons.injEq, and_true] at h0
    exact key _ _ _ h0
section
variable {H : Type} {enc : TypeId × Value → H} {P : Program} {w : World} {base : Nat} {spare : Nat → Bool} {held : Bool}
theorem open_agg7 {r : Reach} {b0 : Nat} {t : TypeId} {f0 f1 f2 f3 f4 f5 f6 : Field} {v : Value} {d : DataW H} {p : List MemPlace} (hs : P.underlying t = some (.struct #[f0, f1, f2, f3, f4, f5, f6])) (hone : oneCellFields P #[f0, f1, f2, f3, f4, f5, f6] = true) (hC : P.cellsOf t = 7)
    (hv : Value.okWide P w r b0 t v) (h : DataW.Trod enc P w base spare held t v d p) :
    ∃ (v0 v1 v2 v3 v4 v5 v6 : Value) (n : Nat), v = .agg #[v0, v1, v2, v3, v4, v5, v6] ∧
      (∃ y, DataW.trod enc P w base spare held n f0.type [v0] = some y) ∧ (∃ y, DataW.trod enc P w base spare held n f1.type [v1] = some y) ∧ (∃ y, DataW.trod enc P w base spare held n f2.type [v2] = some y) ∧
      (∃ y, DataW.trod enc P w base spare held n f3.type [v3] = some y) ∧ (∃ y, DataW.trod enc P w base spare held n f4.type [v4] = some y) ∧ (∃ y, DataW.trod enc P w base spare held n f5.type [v5] = some y) ∧ (∃ y, DataW.trod enc P w base spare held n f6.type [v6] = some y) := by
  obtain ⟨cs, rfl, hsz⟩ := okWide_struct hs hv
  obtain ⟨c0, c1, c2, c3, c4, c5, c6, rfl⟩ := array7 (hsz.trans hC)
  obtain ⟨fuel, hf⟩ := h
  obtain ⟨xs, n, _, _, _, hxl, hx⟩ := DataW.trod_struct hs hf
  have hxl' : xs.length = 7 := hxl
  have g : ∀ (j : Nat) (f : Field), (#[f0, f1, f2, f3, f4, f5, f6] : Array Field)[j]? = some f → j < 7 → ∃ y, DataW.trod enc P w base spare held n f.type ((([c0, c1, c2, c3, c4, c5, c6] : List Value).drop j).take 1) = some y := by
    intro j f hj hj7
    obtain ⟨o, k⟩ := hone_of hone j f hj
    have h1 := hx j f hj
    rw [o, k] at h1
    exact ⟨xs[j]'(by omega), h1.trans (List.getElem?_eq_getElem (by omega))⟩
  exact ⟨c0, c1, c2, c3, c4, c5, c6, n, rfl, g 0 f0 rfl (by omega), g 1 f1 rfl (by omega), g 2 f2 rfl (by omega), g 3 f3 rfl (by omega), g 4 f4 rfl (by omega), g 5 f5 rfl (by omega), g 6 f6 rfl (by omega)⟩
end
theorem open_want {H : Type} {enc : TypeId × Value → H} {w : World} {r : Reach} {b0 : Nat} {v : Value} {d : DataW H} {p : List MemPlace} (hv : Value.okWide Tryd.prog w r b0 65 v)
    (h : DataW.Trod enc Tryd.prog w 0 (fun _ => true) true 65 v d p) : ∃ (x : Wnt) (y : WSl), v = .agg #[.int .i64 x.frm, .int .i64 x.too, .int .i64 x.bnd, .slice y.av y.nv y.cv, .slice y.an y.nn y.cn, .slice y.al y.nl y.cl, .slice y.ac y.nc y.cc] ∧ WArg w x y := by
  obtain ⟨v0, v1, v2, v3, v4, v5, v6, n, rfl, ⟨y0, g0⟩, ⟨y1, g1⟩, ⟨y2, g2⟩, ⟨y3, g3⟩, ⟨y4, g4⟩, ⟨y5, g5⟩, ⟨y6, g6⟩⟩ := open_agg7 Tryd.underlying65 (by kernel_rfl) (by kernel_rfl) hv h
  obtain ⟨a, e0, _, _⟩ := DataW.trod_int Tryd.underlying3 g0
  obtain ⟨b, e1, _, _⟩ := DataW.trod_int Tryd.underlying3 g1
  obtain ⟨c, e2, _, hc⟩ := DataW.trod_int Tryd.underlying3 g2
  obtain ⟨A3, n3, c3, l3, rfl, h3⟩ := open_larg g3
  obtain ⟨A4, n4, c4, l4, rfl, h4⟩ := open_larg g4
  obtain ⟨A5, n5, c5, l5, rfl, h5⟩ := open_larg g5
  obtain ⟨A6, n6, c6, l6, rfl, h6⟩ := open_larg g6
  simp only [List.cons.injEq, and_true] at e0 e1 e2
  subst e0 e1 e2
  exact ⟨⟨a, b, c, l3, l4, l5, l6⟩, ⟨A3, n3, c3, A4, n4, c4, A5, n5, c5, A6, n6, c6⟩, rfl, h3, h4, h5, h6, wf_i64 hc⟩
def tcells (l : List Tok) : List Value := l.flatMap fun t => [.int .i64 t.kind, .int .i64 t.pos, .string (txt t.text)]
theorem tcells_app (a b : List Tok) : tcells (a ++ b) = tcells a ++ tcells b := List.flatMap_append
theorem tcells_one (l : List Tok) : ∀ u ∈ tcells l, u.oneCell' = true := by
  intro u hu
  simp only [tcells, List.mem_flatMap] at hu
  obtain ⟨t, _, hu⟩ := hu
  simp only [List.mem_cons, List.not_mem_nil, or_false] at hu
  rcases hu with rfl | rfl | rfl <;> rfl
theorem tok_row (k p : Int) (x : List UInt8) : #[Value.int .i64 k, Value.int .i64 p, Value.string (txt x)] = (tcells [⟨k, p, x⟩]).toArray := rfl
/-- A split's answer: tokens in a row of the call's own. -/
def SplitAns (x : List Tok × Int × Int) (w : World) (e : Ending) (w' : World) : Prop :=
  ∃ v, e = .returned (.tuple #[v, .int .i64 x.2.1, .int .i64 x.2.2]) ∧ w'.ownsRow w.heap.size 90 3 v x.1.length (tcells x.1) ∧ Below w.heap.size w w'
theorem u8_ne {c d : UInt8} (h : (c == d) = false) : ((c.toNat : Int) == (d.toNat : Int)) = false :=
  beq_eq_false_iff_ne.2 fun h1 => beq_eq_false_iff_ne.1 h (UInt8.toNat_inj.1 (Int.ofNat_inj.1 h1))
theorem u8_eq {c d : UInt8} (h : (c == d) = true) : ((c.toNat : Int) == (d.toNat : Int)) = true := by rw [eq_of_beq h]; exact beq_self_eq_true _
theorem split_ok {s : List UInt8} {l : List Tok} (h : s.length ≤ 10000) (hs : scanAt s 0 = (l, none)) : splitS s = (l, -1, 0) := by
  unfold splitS; rw [if_neg (by omega), hs]
theorem split_bad {s : List UInt8} {l : List Tok} {k : Nat} (h : s.length ≤ 10000) (hs : scanAt s 0 = (l, some k)) : splitS s = ([], (k : Int), 3) := by
  unfold splitS; rw [if_neg (by omega), hs]
/-- What a rule says. -/
structure Rul where
  name : List UInt8
  pri : Int
  m : Mat
  x : Wnt
  strict : Bool
/-- A token's kind and text. -/
abbrev Tk := Int × List UInt8
def era (t : Tok) : Tk := (t.kind, t.text)
def numT (t : Tk) : Option Nat := if t.1 = 2 ∧ 0 ≤ numS t.2 2147483647 then some (numS t.2 2147483647).toNat else none
def num1 : List Tk → Except (List Tk) (Nat × List Tk)
  | [] => .error []
  | t :: r => match numT t with
    | some v => .ok (v, r)
    | none => .error (t :: r)
def more : List Tk → Except (List Tk) (List Nat × List Tk)
  | [] => .ok ([], [])
  | t :: r => if t.1 = 2 then
      match numT t with
      | some v => (match more r with
        | .ok (vs, r') => .ok (v :: vs, r')
        | .error e => .error e)
      | none => .error (t :: r)
    else .ok ([], t :: r)
def nums1 (ts : List Tk) : Except (List Tk) (List Nat × List Tk) :=
  match num1 ts with
  | .ok (v, r) => (match more r with
    | .ok (vs, r') => .ok (v :: vs, r')
    | .error e => .error e)
  | .error e => .error e
def pref1 : List Tk → Except (List Tk) ((Nat × Nat) × List Tk)
  | [] => .error []
  | t :: r => if t.1 = 2 then
      match readS t.2 with
      | some p => .ok (p, r)
      | none => .error (t :: r)
    else .error (t :: r)
/-- A clause's word. -/
def wordL (i : Nat) : List UInt8 :=
  match i with
  | 0 => [118, 105, 97]
  | 1 => [97, 118, 111, 105, 100, 45, 110, 111, 100, 101, 115]
  | 2 => [97, 118, 111, 105, 100, 45, 108, 105, 110, 107, 115]
  | 3 => [97, 118, 111, 105, 100, 45, 99, 111, 108, 111, 117, 114, 115]
  | 4 => [99, 111, 115, 116]
  | 5 => [115, 114, 99]
  | 6 => [100, 115, 116]
  | 7 => [112, 114, 111, 116, 111]
  | 8 => [115, 112, 111, 114, 116]
  | 9 => [100, 112, 111, 114, 116]
  | 10 => [115, 116, 114, 105, 99, 116]
  | 11 => [102, 114, 111, 109]
  | 12 => [116, 111]
  | _ => []
def wordIx (w : List UInt8) : Nat := ((List.range 13).find? fun i => wordL i == w).getD 13
def withN (f : Rul → Nat → Rul) (r : Rul) (ts : List Tk) : Except (List Tk) (Rul × List Tk) := match num1 ts with
  | .ok (v, t) => .ok (f r v, t)
  | .error e => .error e
def withL (f : Rul → List Int → Rul) (r : Rul) (ts : List Tk) : Except (List Tk) (Rul × List Tk) := match nums1 ts with
  | .ok (v, t) => .ok (f r (v.map Int.ofNat), t)
  | .error e => .error e
def withP (f : Rul → Nat → Nat → Rul) (r : Rul) (ts : List Tk) : Except (List Tk) (Rul × List Tk) := match pref1 ts with
  | .ok (v, t) => .ok (f r v.1 v.2, t)
  | .error e => .error e
/-- A clause, behind its word. -/
def clauseI (i : Nat) (r : Rul) (ts : List Tk) : Except (List Tk) (Rul × List Tk) :=
  match i with
  | 0 => withL (fun r v => { r with x := { r.x with via := v } }) r ts
  | 1 => withL (fun r v => { r with x := { r.x with nds := v } }) r ts
  | 2 => withL (fun r v => { r with x := { r.x with lks := v } }) r ts
  | 3 => withL (fun r v => { r with x := { r.x with cls := v } }) r ts
  | 4 => withN (fun r v => { r with x := { r.x with bnd := (v : Int) } }) r ts
  | 5 => withP (fun r a n => { r with m := { r.m with sa := a, sl := (n : Int) } }) r ts
  | 6 => withP (fun r a n => { r with m := { r.m with da := a, dl := (n : Int) } }) r ts
  | 7 => withN (fun r v => { r with m := { r.m with pr := (v : Int) } }) r ts
  | 8 => withN (fun r v => { r with m := { r.m with sp := (v : Int) } }) r ts
  | 9 => withN (fun r v => { r with m := { r.m with dp := (v : Int) } }) r ts
  | 10 => .ok ({ r with strict := true }, ts)
  | 11 => withN (fun r v => { r with x := { r.x with frm := (v : Int) } }) r ts
  | _ => withN (fun r v => { r with x := { r.x with too := (v : Int) } }) r ts
def clausesP : Nat → List (List UInt8) → Rul → List Tk → Except (List Tk) (List (List UInt8) × Rul × List Tk)
  | 0, had, r, ts => .ok (had, r, ts)
  | _ + 1, had, r, [] => .ok (had, r, [])
  | f + 1, had, r, t :: ts => if t.1 = 1 then
      if t.2 ∈ had ∨ wordIx t.2 = 13 then .error (t :: ts)
      else match clauseI (wordIx t.2) r ts with
        | .ok (r', ts') => clausesP f (had ++ [t.2]) r' ts'
        | .error e => .error e
    else .ok (had, r, t :: ts)
def noMat : Mat := ⟨0, 0, 0, 0, 0, 0, 0⟩
def noWnt : Wnt := ⟨0, 0, 0, [], [], [], []⟩
def noRul : Rul := ⟨[], 0, noMat, noWnt, false⟩
/-- The end of a rule. -/
def shutR : List (List UInt8) × Rul × List Tk → Except (List Tk) (Rul × List Tk)
  | (_, _, []) => .error []
  | (had, r, t :: ts) => if t.1 = 3 ∧ wordL 11 ∈ had ∧ wordL 12 ∈ had then .ok (r, ts) else .error (t :: ts)
def ruleW : List UInt8 := [114, 117, 108, 101]
def clausesA (had : List (List UInt8)) (r : Rul) (ts : List Tk) : Except (List Tk) (List (List UInt8) × Rul × List Tk) := clausesP ts.length had r ts
def nameP : List Tk → Except (List Tk) (Rul × List Tk)
  | [] => .error []
  | t :: ts => if t.1 = 1 then
      match num1 ts with
      | .ok (v, ts') => (match clausesA [] { noRul with name := t.2, pri := (v : Int) } ts' with
        | .ok x => shutR x
        | .error e => .error e)
      | .error e => .error e
    else .error (t :: ts)
def ruleP : List Tk → Except (List Tk) (Rul × List Tk)
  | [] => .error []
  | t :: ts => if t.1 = 1 ∧ t.2 = ruleW then nameP ts else .error (t :: ts)
def rulesP : Nat → List Tk → Except (List Tk) (List (Nat × Rul))
  | 0, _ => .ok []
  | _ + 1, [] => .ok []
  | f + 1, t :: ts => match ruleP (t :: ts) with
    | .ok (r, ts') => (match rulesP f ts' with
      | .ok l => .ok (((t :: ts).length, r) :: l)
      | .error e => .error e)
    | .error e => .error e
def rulesA (ts : List Tk) : Except (List Tk) (List (Nat × Rul)) := rulesP ts.length ts
def posAt (s : List UInt8) (l : List Tok) (i : Nat) : Int := match l[i]? with
  | some t => t.pos
  | none => (s.length : Int)
/-- What Parse tells. -/
def parseS (s : List UInt8) : List Rul × Int × Int :=
  match splitS s with
  | (l, a, e) => if e = 0 then
      match rulesA (l.map era) with
      | .ok rs => (match rs[20]? with
        | some (k, _) => ([], posAt s l (l.length - k), 6)
        | none => (rs.map (·.2), -1, 0))
      | .error r => ([], posAt s l (l.length - r.length), 3)
    else ([], a, e)
/-- Nothing grows. -/
theorem num1_len {ts t : List Tk} {v : Nat} (h : num1 ts = .ok (v, t)) : t.length + 1 = ts.length := by
  cases ts with
  | nil => cases h
  | cons a r =>
    simp only [num1] at h
    split at h
    · cases h; rfl
    · cases h
theorem more_len : ∀ {ts t : List Tk} {v : List Nat}, more ts = .ok (v, t) → t.length ≤ ts.length := by
  intro ts
  induction ts with
  | nil => intro t v h; cases h; exact Nat.le_refl _
  | cons a r ih =>
    intro t v h
    unfold more at h
    split at h
    · split at h
      · split at h
        · rename_i h3
          cases h
          exact Nat.le_succ_of_le (ih h3)
        · cases h
      · cases h
    · cases h; exact Nat.le_refl _
theorem nums1_len {ts t : List Tk} {v : List Nat} (h : nums1 ts = .ok (v, t)) : t.length ≤ ts.length := by
  unfold nums1 at h
  split at h
  · rename_i h1
    split at h
    · rename_i h2
      cases h
      have := num1_len h1
      have := more_len h2
      omega
    · cases h
  · cases h
theorem pref1_len {ts t : List Tk} {v : Nat × Nat} (h : pref1 ts = .ok (v, t)) : t.length ≤ ts.length := by
  cases ts with
  | nil => cases h
  | cons a r =>
    simp only [pref1] at h
    split at h
    · split at h
      · cases h; simp
      · cases h
    · cases h
theorem clauseI_len {i : Nat} {r r' : Rul} {ts t : List Tk} (h : clauseI i r ts = .ok (r', t)) : t.length ≤ ts.length := by
  have hN : ∀ {f : Rul → Nat → Rul}, withN f r ts = .ok (r', t) → t.length ≤ ts.length := by
    intro f h
    unfold withN at h
    split at h
    · rename_i h1; cases h; have := num1_len h1; omega
    · cases h
  have hL : ∀ {f : Rul → List Int → Rul}, withL f r ts = .ok (r', t) → t.length ≤ ts.length := by
    intro f h
    unfold withL at h
    split at h
    · rename_i h1; cases h; exact nums1_len h1
    · cases h
  have hP : ∀ {f : Rul → Nat → Nat → Rul}, withP f r ts = .ok (r', t) → t.length ≤ ts.length := by
    intro f h
    unfold withP at h
    split at h
    · rename_i h1; cases h; exact pref1_len h1
    · cases h
  unfold clauseI at h
  split at h <;> first | exact hL h | exact hN h | exact hP h | (cases h; exact Nat.le_refl _)
theorem clausesP_same : ∀ (f g : Nat) (had : List (List UInt8)) (r : Rul) (ts : List Tk), ts.length ≤ f → ts.length ≤ g → clausesP f had r ts = clausesP g had r ts := by
  intro f
  induction f with
  | zero =>
    intro g had r ts h _
    obtain rfl : ts = [] := List.length_eq_zero_iff.1 (by omega)
    cases g <;> rfl
  | succ f ih =>
    intro g had r ts h1 h2
    cases ts with
    | nil => cases g <;> rfl
    | cons t ts =>
      cases g with
      | zero => simp at h2
      | succ g =>
        unfold clausesP
        split
        · split
          · rfl
          · split
            · rename_i h3
              have := clauseI_len h3
              simp only [List.length_cons] at h1 h2
              exact ih g _ _ _ (by omega) (by omega)
            · rfl
        · rfl
theorem clausesA_nil (had : List (List UInt8)) (r : Rul) : clausesA had r [] = .ok (had, r, []) := rfl
theorem clausesA_cons (had : List (List UInt8)) (r : Rul) (t : Tk) (ts : List Tk) : clausesA had r (t :: ts) = if t.1 = 1 then
      if t.2 ∈ had ∨ wordIx t.2 = 13 then .error (t :: ts)
      else match clauseI (wordIx t.2) r ts with
        | .ok (r', ts') => clausesA (had ++ [t.2]) r' ts'
        | .error e => .error e
    else .ok (had, r, t :: ts) := by
  show clausesP (ts.length + 1) had r (t :: ts) = _
  conv => lhs; unfold clausesP
  split
  · split
    · rfl
    · split
      · rename_i h3
        exact clausesP_same _ _ _ _ _ (clauseI_len h3) (Nat.le_refl _)
      · rfl
  · rfl
theorem clausesP_len : ∀ (f : Nat) {had had' : List (List UInt8)} {r r' : Rul} {ts t : List Tk}, clausesP f had r ts = .ok (had', r', t) → t.length ≤ ts.length := by
  intro f
  induction f with
  | zero => intro had had' r r' ts t h; cases h; exact Nat.le_refl _
  | succ f ih =>
    intro had had' r r' ts t h
    cases ts with
    | nil => cases h; exact Nat.le_refl _
    | cons a ts =>
      unfold clausesP at h
      split at h
      · split at h
        · cases h
        · split at h
          · rename_i h3
            have := clauseI_len h3
            have := ih h
            simp only [List.length_cons]
            omega
          · cases h
      · cases h; exact Nat.le_refl _
theorem ruleP_len {ts t : List Tk} {r : Rul} (h : ruleP ts = .ok (r, t)) : t.length < ts.length := by
  cases ts with
  | nil => cases h
  | cons a ts =>
    simp only [ruleP] at h
    split at h
    · cases ts with
      | nil => cases h
      | cons b ts =>
        simp only [nameP] at h
        split at h
        · split at h
          · rename_i h1
            have := num1_len h1
            split at h
            · rename_i x h2
              obtain ⟨had, r', t'⟩ := x
              have := clausesP_len _ h2
              cases t' with
              | nil => cases h
              | cons c t' =>
                simp only [shutR] at h
                split at h
                · cases h
                  simp only [List.length_cons] at *
                  omega
                · cases h
            · cases h
          · cases h
        · cases h
    · cases h
theorem rulesP_same : ∀ (f g : Nat) (ts : List Tk), ts.length ≤ f → ts.length ≤ g → rulesP f ts = rulesP g ts := by
  intro f
  induction f with
  | zero =>
    intro g ts h _
    obtain rfl : ts = [] := List.length_eq_zero_iff.1 (by omega)
    cases g <;> rfl
  | succ f ih =>
    intro g ts h1 h2
    cases ts with
    | nil => cases g <;> rfl
    | cons t ts =>
      cases g with
      | zero => simp at h2
      | succ g =>
        unfold rulesP
        split
        · rename_i h3
          have := ruleP_len h3
          simp only [List.length_cons] at h1 h2 this
          rw [ih g _ (by omega) (by omega)]
        · rfl
theorem rulesA_cons (t : Tk) (ts : List Tk) : rulesA (t :: ts) = match ruleP (t :: ts) with
    | .ok (r, ts') => (match rulesA ts' with
      | .ok l => .ok (((t :: ts).length, r) :: l)
      | .error e => .error e)
    | .error e => .error e := by
  show rulesP (ts.length + 1) (t :: ts) = _
  conv => lhs; unfold rulesP
  split
  · rename_i h3
    have := ruleP_len h3
    simp only [List.length_cons] at this
    rw [rulesP_same _ _ _ (show _ ≤ ts.length by omega) (Nat.le_refl _)]
    rfl
  · rfl
/-- All blocks but one stay. -/
structure But (B : Nat) (w w' : World) : Prop where
  os : w'.os = w.os
  tape : w'.tape = w.tape
  output : w'.output = w.output
  size : w.heap.size ≤ w'.heap.size
  block : ∀ g, g < w.heap.size → g ≠ B → w'.heap[g]? = w.heap[g]?
theorem But.refl (B : Nat) (w : World) : But B w w := ⟨rfl, rfl, rfl, Nat.le_refl _, fun _ _ _ => rfl⟩
theorem But.trans {B : Nat} {a b c : World} (h : But B a b) (h' : But B b c) : But B a c :=
  ⟨h'.os.trans h.os, h'.tape.trans h.tape, h'.output.trans h.output, Nat.le_trans h.size h'.size, fun g hg h1 => (h'.block g (Nat.lt_of_lt_of_le hg h.size) h1).trans (h.block g hg h1)⟩
theorem But.of {B : Nat} {a b : World} (h : Below a.heap.size a b) : But B a b := ⟨h.os, h.tape, h.output, h.size, fun g hg _ => h.block g hg⟩
theorem But.set {B j : Nat} {w : World} {u : Value} : But B w (w.setCell ⟨B, j, none⟩ u) :=
  ⟨rfl, rfl, rfl, by simp [World.setCell], fun g _ h1 => heap_setCell_other w ⟨B, j, none⟩ g u h1⟩
theorem But.below {B C : Nat} {w w' : World} (h : But B w w') (hB : C ≤ B) (hC : C ≤ w.heap.size) : Below C w w' := ⟨h.os, h.tape, h.output, h.size, fun g hg => h.block g (by omega) (by omega)⟩
theorem own_but {B : Nat} {w w' : World} {base e size n : Nat} {v : Value} {xs : List Value} {t : TypeId} {c : Array Value} {fz : Nat × Nat} (hown : w.ownsRow base e size v n xs) (hb : But B w w') (ho : w.heap[B]? = some (.cells c t fz)) (he : e ≠ t) : w'.ownsRow base e size v n xs := by
  have hgb : w.grownBy w' (some B) := ⟨hb.os, hb.tape, hb.output, hb.size, fun k hk hne => hb.block k hk (fun e => hne (by rw [e]))⟩
  refine hown.kept hgb ?_
  rcases hown.2 with ⟨rfl, _⟩ | ⟨g, cap, cur, rfl, _, hg, _⟩
  · exact .inl rfl
  · refine .inr ?_
    simp only [Value.ownBlock, ne_eq, Option.some.injEq]
    rintro rfl
    rw [ho] at hg
    simp at hg
    exact he hg.2.1.symm
theorem tcells_len (l : List Tok) : (tcells l).length = l.length * 3 := by
  induction l with
  | nil => rfl
  | cons x r ih => simp only [tcells, List.flatMap_cons, List.length_append, List.length_cons, List.length_nil] at *; omega
theorem tcells_at {l : List Tok} {i : Nat} {t : Tok} (h : l[i]? = some t) : (tcells l)[i * 3]? = some (.int .i64 t.kind) ∧ (tcells l)[i * 3 + 1]? = some (.int .i64 t.pos) ∧ (tcells l)[i * 3 + 2]? = some (.string (txt t.text)) := by
  induction l generalizing i with
  | nil => simp at h
  | cons x r ih =>
    cases i with
    | zero => simp at h; subst h; exact ⟨rfl, rfl, rfl⟩
    | succ i =>
      simp at h
      obtain ⟨h1, h2, h3⟩ := ih h
      refine ⟨?_, ?_, ?_⟩
      · rw [show (i + 1) * 3 = i * 3 + 3 by omega]; exact h1
      · rw [show (i + 1) * 3 + 1 = i * 3 + 1 + 3 by omega]; exact h2
      · rw [show (i + 1) * 3 + 2 = i * 3 + 2 + 3 by omega]; exact h3
theorem pst_lt {w : World} {B : Nat} {o : Obj} (h : w.heap[B]? = some o) : B < w.heap.size := by
  rcases Nat.lt_or_ge B w.heap.size with h1 | h1
  · exact h1
  · rw [Array.getElem?_eq_none h1] at h; cases h
theorem pbox_cells {w : World} {B : Nat} {x0 x1 x2 : Value} {T : TypeId} (h : w.heap[B]? = some (.cells #[x0, x1, x2] T (0, 0))) : w.cell? ⟨B, 0, none⟩ = some x0 ∧ w.cell? ⟨B, 1, none⟩ = some x1 ∧ w.cell? ⟨B, 2, none⟩ = some x2 ∧ ∀ j, w.frozen? ⟨B, j, none⟩ = false :=
  ⟨by rw [cell_of_row _ _ _ _ _ _ h]; rfl, by rw [cell_of_row _ _ _ _ _ _ h]; rfl, by rw [cell_of_row _ _ _ _ _ _ h]; rfl, fun j => frozen_of_row _ _ _ _ _ h⟩
theorem pbox_set1 {w : World} {B : Nat} {x0 x1 x2 u : Value} {T : TypeId} (h : w.heap[B]? = some (.cells #[x0, x1, x2] T (0, 0))) : (w.setCell ⟨B, 1, none⟩ u).heap[B]? = some (.cells #[x0, u, x2] T (0, 0)) := heap_setCell_same w B 1 _ T u h
theorem pbox_set2 {w : World} {B : Nat} {x0 x1 x2 u : Value} {T : TypeId} (h : w.heap[B]? = some (.cells #[x0, x1, x2] T (0, 0))) : (w.setCell ⟨B, 2, none⟩ u).heap[B]? = some (.cells #[x0, x1, u] T (0, 0)) := heap_setCell_same w B 2 _ T u h
def isS (l : List Tok) (k : Nat) (kind : Int) : Bool := match l[k]? with
  | some t => t.kind == kind
  | none => false
def numAt (l : List Tok) (k : Nat) : Option Nat := (l[k]?).bind fun t => numT (era t)
/-- What is left. -/
def Kd (l : List Tok) (k : Nat) : List Tk := (l.map era).drop k
theorem Kd_some {l : List Tok} {k : Nat} {t : Tok} (h : l[k]? = some t) : Kd l k = era t :: Kd l (k + 1) := by
  obtain ⟨hk, hx⟩ := List.getElem?_eq_some_iff.1 h
  unfold Kd
  rw [List.drop_eq_getElem_cons (by simpa using hk)]
  simp [hx]
theorem Kd_none {l : List Tok} {k : Nat} (h : l.length ≤ k) : Kd l k = [] := by
  unfold Kd; rw [List.drop_eq_nil_iff]; simpa using h
theorem Kd_len {l : List Tok} {k : Nat} : (Kd l k).length = l.length - k := by unfold Kd; simp
theorem isS_not {l : List Tok} {k : Nat} {kind : Int} (h : isS l k kind = false) : l[k]? = none ∨ ∃ t, l[k]? = some t ∧ t.kind ≠ kind := by
  unfold isS at h
  cases ht : l[k]? with
  | none => exact .inl rfl
  | some t => rw [ht] at h; exact .inr ⟨t, rfl, by simpa using h⟩
theorem isS_yes {l : List Tok} {k : Nat} {kind : Int} (h : isS l k kind = true) : ∃ t, l[k]? = some t ∧ t.kind = kind := by
  unfold isS at h
  cases ht : l[k]? with
  | none => rw [ht] at h; cases h
  | some t => rw [ht] at h; exact ⟨t, rfl, by simpa using h⟩
theorem num1_at {l : List Tok} {k v : Nat} (h : numAt l k = some v) : num1 (Kd l k) = .ok (v, Kd l (k + 1)) ∧ k < l.length := by
  unfold numAt at h
  cases ht : l[k]? with
  | none => rw [ht] at h; cases h
  | some t =>
    rw [ht] at h
    have h2 : numT (era t) = some v := h
    refine ⟨?_, (List.getElem?_eq_some_iff.1 ht).1⟩
    rw [Kd_some ht]; simp only [num1]; rw [h2]
theorem num1_bad {l : List Tok} {k : Nat} (h : numAt l k = none) : num1 (Kd l k) = .error (Kd l k) := by
  unfold numAt at h
  cases ht : l[k]? with
  | none =>
    rw [Kd_none (List.getElem?_eq_none_iff.1 ht)]; rfl
  | some t =>
    rw [ht] at h
    have h2 : numT (era t) = none := h
    rw [Kd_some ht]; simp only [num1]; rw [h2]
def contN (acc : List Nat) : Except (List Tk) (List Nat × List Tk) → Except (List Tk) (List Nat × List Tk)
  | .ok (vs, r) => .ok (acc ++ vs, r)
  | .error e => .error e
theorem more_end {l : List Tok} {k : Nat} (h : isS l k 2 = false) : more (Kd l k) = .ok ([], Kd l k) := by
  rcases isS_not h with h1 | ⟨t, h1, h2⟩
  · rw [Kd_none (List.getElem?_eq_none_iff.1 h1)]; rfl
  · rw [Kd_some h1]; unfold more; rw [if_neg (show ¬ (era t).1 = 2 from h2)]
theorem more_on {l : List Tok} {k v : Nat} (h : isS l k 2 = true) (hv : numAt l k = some v) (acc : List Nat) : contN acc (more (Kd l k)) = contN (acc ++ [v]) (more (Kd l (k + 1))) := by
  obtain ⟨t, h1, h2⟩ := isS_yes h
  unfold numAt at hv
  rw [h1] at hv
  have h3 : numT (era t) = some v := hv
  rw [Kd_some h1]
  conv => lhs; unfold more
  rw [if_pos (show (era t).1 = 2 from h2), h3]
  cases more (Kd l (k + 1)) with
  | error e => rfl
  | ok x => obtain ⟨vs, r⟩ := x; simp [contN]
theorem more_bad {l : List Tok} {k : Nat} (h : isS l k 2 = true) (hv : numAt l k = none) (acc : List Nat) : contN acc (more (Kd l k)) = .error (Kd l k) := by
  obtain ⟨t, h1, h2⟩ := isS_yes h
  unfold numAt at hv
  rw [h1] at hv
  have h3 : numT (era t) = none := hv
  rw [Kd_some h1]
  conv => lhs; unfold more
  rw [if_pos (show (era t).1 = 2 from h2), h3]
  rfl
theorem nums1_on {l : List Tok} {k v : Nat} (hv : numAt l k = some v) : nums1 (Kd l k) = contN [v] (more (Kd l (k + 1))) := by
  unfold nums1
  rw [(num1_at hv).1]
  simp only
  cases more (Kd l (k + 1)) with
  | error e => rfl
  | ok x => obtain ⟨vs, r⟩ := x; rfl
theorem nums1_bad {l : List Tok} {k : Nat} (hv : numAt l k = none) : nums1 (Kd l k) = .error (Kd l k) := by
  unfold nums1
  rw [num1_bad hv]
theorem but_app {B : Nat} {w wr w4 : World} {base e s n : Nat} {v : Value} {xs : List Value} {o : Obj} (h : But B w wr) (hb : w.heap.size ≤ base) (hown : wr.ownsRow base e s v n xs) (hg : (wr.alloc o).grownBy w4 v.ownBlock) : But B w w4 := by
  have h1 := (But.of (B := B) ((Below.refl wr.heap.size wr).alloc (Nat.le_refl _) o))
  have h2 := h.trans h1
  refine ⟨hg.os.trans h2.os, hg.tape.trans h2.tape, hg.output.trans h2.output, Nat.le_trans h2.size hg.size, fun g hg1 hg2 => ?_⟩
  refine (hg.block g (Nat.lt_of_lt_of_le hg1 h2.size) (fun hh => ?_)).trans (h2.block g hg1 hg2)
  have := (hown.lt g hh.symm).1
  omega
theorem own_app {w w4 : World} {b e s n b2 e2 s2 n2 : Nat} {v v2 : Value} {xs ys : List Value} {o : Obj} (ho : w.ownsRow b e s v n xs) (h2 : w.ownsRow b2 e2 s2 v2 n2 ys) (hg : (w.alloc o).grownBy w4 v2.ownBlock) (hne : e ≠ e2) : w4.ownsRow b e s v n xs := by
  have ho1 := ho.alloc (w := w) o
  have ho2 := h2.alloc (w := w) o
  exact ho1.kept hg ((own_apart ho1 ho2 hne).imp id id)
theorem box_app2 {wr w4 : World} {B base e s n : Nat} {v : Value} {xs : List Value} {o : Obj} {cs : Array Value} {t : TypeId} (hbox : wr.heap[B]? = some (.cells cs t (0, 0))) (hown : wr.ownsRow base e s v n xs) (hne : t ≠ e) (hg : (wr.alloc o).grownBy w4 v.ownBlock) : w4.heap[B]? = some (.cells cs t (0, 0)) := by
  have hlt := pst_lt hbox
  refine (hg.block B (by simp; omega) (fun h => ?_)).trans (((Below.alloc (Below.refl wr.heap.size wr) (Nat.le_refl _) o).block B hlt).trans hbox)
  rcases hown.2 with ⟨rfl, _⟩ | ⟨g, cap, cur, rfl, _, hgg, _⟩
  · simp [Value.ownBlock] at h
  · simp only [Value.ownBlock, Option.some.injEq] at h
    subst h
    rw [hbox] at hgg
    simp at hgg
    exact hne hgg.2
def lenOf : Value → Nat
  | .slice _ n _ => n
  | _ => 0
theorem pref1_end {l : List Tok} {k : Nat} (h : isS l k 2 = false) : pref1 (Kd l k) = .error (Kd l k) := by
  rcases isS_not h with h1 | ⟨t, h1, h2⟩
  · rw [Kd_none (List.getElem?_eq_none_iff.1 h1)]; rfl
  · rw [Kd_some h1]; exact if_neg (show ¬ (era t).1 = 2 from h2)
theorem pref1_on {l : List Tok} {k : Nat} {t : Tok} (h1 : l[k]? = some t) (h2 : t.kind = 2) : pref1 (Kd l k) = match readS t.text with
    | some p => .ok (p, Kd l (k + 1))
    | none => .error (Kd l k) := by
  rw [Kd_some h1]; exact if_pos (show (era t).1 = 2 from h2)
theorem drew_new (w : World) (o : Obj) : (w.alloc o).drew.heap[w.heap.size]? = some o := heap_alloc_new w o
theorem step_on {w1 W w5 : World} (hb5 : Below W.heap.size W w5) (hW : Below w1.heap.size w1 W) : Below w1.heap.size w1 w5 := hW.trans (hb5.mono hW.size)
theorem But.new {B G j : Nat} {w w' : World} {u : Value} (h : But B w w') (hG : w.heap.size ≤ G) : But B w (w'.setCell ⟨G, j, none⟩ u) :=
  ⟨h.os, h.tape, h.output, by simp [World.setCell]; exact h.size, fun g hg h1 => (heap_setCell_other w' ⟨G, j, none⟩ g u (by show g ≠ G; omega)).trans (h.block g hg h1)⟩
theorem readV_form (x : Option (Nat × Nat)) : ∃ (a m : Nat) (ok : Bool), readV x = .tuple #[.agg #[.int .u32 (a : Int), .int .i64 (m : Int)], .bool ok] ∧ (ok = true → x = some (a, m)) ∧ (ok = false → x = none) := by
  cases x with
  | none => exact ⟨0, 0, false, rfl, fun h => (by cases h), fun _ => rfl⟩
  | some p => obtain ⟨a, m⟩ := p; exact ⟨a, m, true, rfl, fun _ => rfl, fun h => (by cases h)⟩
/-- All blocks but two stay. -/
structure But2 (B C : Nat) (w w' : World) : Prop where
  os : w'.os = w.os
  tape : w'.tape = w.tape
  output : w'.output = w.output
  size : w.heap.size ≤ w'.heap.size
  block : ∀ g, g < w.heap.size → g ≠ B → g ≠ C → w'.heap[g]? = w.heap[g]?
theorem But2.refl (B C : Nat) (w : World) : But2 B C w w := ⟨rfl, rfl, rfl, Nat.le_refl _, fun _ _ _ _ => rfl⟩
theorem But2.trans {B C : Nat} {a b c : World} (h : But2 B C a b) (h' : But2 B C b c) : But2 B C a c :=
  ⟨h'.os.trans h.os, h'.tape.trans h.tape, h'.output.trans h.output, Nat.le_trans h.size h'.size, fun g hg h1 h2 => (h'.block g (Nat.lt_of_lt_of_le hg h.size) h1 h2).trans (h.block g hg h1 h2)⟩
theorem But2.fst {B C : Nat} {a b : World} (h : But B a b) : But2 B C a b := ⟨h.os, h.tape, h.output, h.size, fun g hg h1 _ => h.block g hg h1⟩
theorem But2.snd {B C : Nat} {a b : World} (h : But C a b) : But2 B C a b := ⟨h.os, h.tape, h.output, h.size, fun g hg _ h2 => h.block g hg h2⟩
theorem But2.old {B C D : Nat} {w w' : World} (h : But2 B C w w') (hC : D ≤ C) (w0 : World) (h0 : But B w0 w) (hw : w0.heap.size ≤ D) : But B w0 w' :=
  ⟨h.os.trans h0.os, h.tape.trans h0.tape, h.output.trans h0.output, Nat.le_trans h0.size h.size, fun g hg h1 => (h.block g (Nat.lt_of_lt_of_le hg h0.size) h1 (by omega)).trans (h0.block g hg h1)⟩
/-- A rule's cells. -/
def rarr (r : Rul) (y : WSl) : Array Value := #[.string (txt r.name), .int .i64 r.pri, .int .u32 (r.m.sa : Int), .int .i64 r.m.sl, .int .u32 (r.m.da : Int), .int .i64 r.m.dl, .int .i64 r.m.pr, .int .i64 r.m.sp, .int .i64 r.m.dp,
  .int .i64 r.x.frm, .int .i64 r.x.too, .int .i64 r.x.bnd, .slice y.av y.nv y.cv, .slice y.an y.nn y.cn, .slice y.al y.nl y.cl, .slice y.ac y.nc y.cc, .bool r.strict]
def RBox (BR : Nat) (r : Rul) (y : WSl) (w : World) : Prop := w.heap[BR]? = some (.cells (rarr r y) 67 (0, 0))
/-- The lists of a rule are a call's own. -/
structure ROwn (w : World) (x : Wnt) (y : WSl) : Prop where
  via : w.ownsRow 0 3 1 (.slice y.av y.nv y.cv) y.nv (icells x.via)
  nds : w.ownsRow 0 3 1 (.slice y.an y.nn y.cn) y.nn (icells x.nds)
  lks : w.ownsRow 0 3 1 (.slice y.al y.nl y.cl) y.nl (icells x.lks)
  cls : w.ownsRow 0 3 1 (.slice y.ac y.nc y.cc) y.nc (icells x.cls)
theorem ROwn.any {w w' : World} {x : Wnt} {y : WSl} (h : ROwn w x y) (ha : ∀ {m : Nat} {v : Value} {xs : List Value}, w.ownsRow 0 3 1 v m xs → w'.ownsRow 0 3 1 v m xs) : ROwn w' x y := ⟨ha h.via, ha h.nds, ha h.lks, ha h.cls⟩
theorem rbox_cells {w : World} {B : Nat} {r : Rul} {y : WSl} (h : RBox B r y w) : w.cell? ⟨B, 0, none⟩ = some (.string (txt r.name)) ∧ w.cell? ⟨B, 1, none⟩ = some (.int .i64 r.pri) ∧ w.cell? ⟨B, 2, none⟩ = some (.int .u32 (r.m.sa : Int)) ∧ w.cell? ⟨B, 3, none⟩ = some (.int .i64 r.m.sl) ∧ w.cell? ⟨B, 4, none⟩ = some (.int .u32 (r.m.da : Int)) ∧ w.cell? ⟨B, 5, none⟩ = some (.int .i64 r.m.dl) ∧ w.cell? ⟨B, 6, none⟩ = some (.int .i64 r.m.pr) ∧ w.cell? ⟨B, 7, none⟩ = some (.int .i64 r.m.sp) ∧ w.cell? ⟨B, 8, none⟩ = some (.int .i64 r.m.dp) ∧
    w.cell? ⟨B, 9, none⟩ = some (.int .i64 r.x.frm) ∧ w.cell? ⟨B, 10, none⟩ = some (.int .i64 r.x.too) ∧ w.cell? ⟨B, 11, none⟩ = some (.int .i64 r.x.bnd) ∧ w.cell? ⟨B, 12, none⟩ = some (.slice y.av y.nv y.cv) ∧ w.cell? ⟨B, 13, none⟩ = some (.slice y.an y.nn y.cn) ∧ w.cell? ⟨B, 14, none⟩ = some (.slice y.al y.nl y.cl) ∧ w.cell? ⟨B, 15, none⟩ = some (.slice y.ac y.nc y.cc) ∧ w.cell? ⟨B, 16, none⟩ = some (.bool r.strict) := by
  refine ⟨?_, ?_, ?_, ?_, ?_, ?_, ?_, ?_, ?_, ?_, ?_, ?_, ?_, ?_, ?_, ?_, ?_⟩ <;> (rw [cell_of_row _ _ _ _ _ _ h]; rfl)
theorem rbox_frozen {w : World} {B : Nat} {r : Rul} {y : WSl} (h : RBox B r y w) (j : Nat) : w.frozen? ⟨B, j, none⟩ = false := frozen_of_row _ _ _ _ _ h
theorem rbox_cell {w : World} {B : Nat} {r : Rul} {y : WSl} (h : RBox B r y w) (j : Nat) {v : Value} (hv : (rarr r y)[j]? = some v) : w.cell? ⟨B, j, none⟩ = some v := by rw [cell_of_row _ _ _ _ _ _ h]; exact hv
theorem rbox_but {w w' : World} {B C : Nat} {r : Rul} {y : WSl} (h : RBox B r y w) (hb : But C w w') (hne : B ≠ C) : RBox B r y w' := (hb.block B (pst_lt h) hne).trans h
theorem rown_but {w w' : World} {C : Nat} {x : Wnt} {y : WSl} {t : TypeId} {cs : Array Value} {fz : Nat × Nat} (h : ROwn w x y) (hb : But C w w') (ho : w.heap[C]? = some (.cells cs t fz)) (hne : 3 ≠ t) : ROwn w' x y := h.any fun hh => own_but hh hb ho hne
theorem wordIx_lt {s : List UInt8} (h : wordIx s ≠ 13) : wordIx s < 13 ∧ wordL (wordIx s) = s := by
  unfold wordIx at h ⊢
  cases hf : (List.range 13).find? fun i => wordL i == s with
  | none => rw [hf] at h; exact absurd rfl h
  | some i =>
    have h1 := List.find?_some hf
    have h2 := List.mem_of_find?_eq_some hf
    simp only [Option.getD_some]
    exact ⟨by simpa using h2, by simpa using h1⟩
theorem wordIx_no {s : List UInt8} (h : wordIx s = 13) (i : Nat) (hi : i < 13) : (s == wordL i) = false := by
  unfold wordIx at h
  cases hf : (List.range 13).find? fun i => wordL i == s with
  | none =>
    rw [List.find?_eq_none] at hf
    have := hf i (by simpa using hi)
    rw [beq_eq_false_iff_ne]
    intro e
    rw [e] at this
    simp at this
  | some j =>
    rw [hf] at h
    have h2 := List.mem_of_find?_eq_some hf
    simp at h h2
    omega
def noWSl : WSl := ⟨none, 0, 0, none, 0, 0, none, 0, 0, none, 0, 0⟩
theorem load_rule {ops : Array Oper} {rest : List Oper} {o : Oper} {a : Act} {w : World} {Q : Exit → Act → World → Prop} {B : Nat} {r : Rul} {y : WSl} (h : RBox B r y w) (hgd : o.guard = none) (x : Operand) (ho : o.op = .load 67 x) (hx : a.eval x = .pointer (some ⟨B, 0, none⟩))
    (k : wpList Tryd.prog ops Q rest (a.put o.dst (.agg (rarr r y))) w) : wpList Tryd.prog ops Q (o :: rest) a w :=
  wpList_load_row hgd 67 x ho B hx 67 (rarr r y) (0, 0) _ h Tryd.underlying67 rfl (by kernel_rfl) k
theorem store_rule {ops : Array Oper} {rest : List Oper} {o : Oper} {a : Act} {w : World} {Q : Exit → Act → World → Prop} {B : Nat} {r0 r : Rul} {y0 y : WSl} (h : RBox B r0 y0 w) (hgd : o.guard = none) (x z : Operand) (ho : o.op = .store 67 x z) (hx : a.eval x = .pointer (some ⟨B, 0, none⟩)) (hz : a.eval z = .agg (rarr r y))
    (k : wpList Tryd.prog ops Q rest (a.put o.dst undef) (w.setRow B (rarr r y))) : wpList Tryd.prog ops Q (o :: rest) a w :=
  wpList_store_row hgd 67 x z ho B (rarr r y) hx hz 67 _ h (by kernel_rfl) rfl (by simp [rarr, Value.oneCell']) k
theorem row_but (w : World) (B : Nat) (cs : Array Value) : But B w (w.setRow B cs) := ⟨rfl, rfl, rfl, by simp [World.setRow], fun g _ h1 => setRow_other w B g cs h1⟩
theorem row_box {w : World} {B : Nat} {r0 : Rul} {y0 : WSl} (h : RBox B r0 y0 w) (r : Rul) (y : WSl) : RBox B r y (w.setRow B (rarr r y)) := setRow_heap w B _ _ _ _ h
def goR : Except (List Tk) (List (List UInt8) × Rul × List Tk) → Except (List Tk) (Rul × List Tk)
  | .ok x => shutR x
  | .error e => .error e
theorem But.new2 {B G : Nat} {w w' w'' : World} (h : But B w w') (hb : But G w' w'') (hG : w.heap.size ≤ G) : But B w w'' :=
  ⟨hb.os.trans h.os, hb.tape.trans h.tape, hb.output.trans h.output, Nat.le_trans h.size hb.size, fun g hg h1 => (hb.block g (Nat.lt_of_lt_of_le hg h.size) (by omega)).trans (h.block g hg h1)⟩
theorem own_but2 {B C : Nat} {w w' : World} {base e size n : Nat} {v : Value} {xs : List Value} {t t' : TypeId} {c c' : Array Value} {fz fz' : Nat × Nat} (hown : w.ownsRow base e size v n xs) (hb : But2 B C w w') (ho : w.heap[B]? = some (.cells c t fz)) (he : e ≠ t) (ho' : w.heap[C]? = some (.cells c' t' fz')) (he' : e ≠ t') : w'.ownsRow base e size v n xs := by
  refine ⟨hown.1, ?_⟩
  rcases hown.2 with h1 | ⟨g, cap, cur, h1, h2, hg, h3⟩
  · exact .inl h1
  · refine .inr ⟨g, cap, cur, h1, h2, (hb.block g (pst_lt hg) (fun e => ?_) (fun e => ?_)).trans hg, h3⟩
    · subst e; rw [ho] at hg; simp at hg; exact he hg.2.1.symm
    · subst e; rw [ho'] at hg; simp at hg; exact he' hg.2.1.symm
theorem RStr.on {a b : World} {A : Option Addr} {n : Nat} {L : List (List UInt8)} (h : RStr a a.heap.size A n L) (hb : Below a.heap.size a b) : RStr b b.heap.size A n L := by
  refine ⟨h.1, fun hn => ?_⟩
  obtain ⟨g, off, hA, hg, hc⟩ := h.2 hn
  exact ⟨g, off, hA, Nat.lt_of_lt_of_le hg hb.size, fun i x hx => (hb.cell (p := ⟨g, off + i, none⟩) hg).trans (hc i x hx)⟩
theorem rule_shut {l : List Tok} {k k' : Nat} {H : List (List UInt8)} {r : Rul} (h : ruleP (Kd l k) = goR (clausesA H r (Kd l k'))) (hs : isS l k' 1 = false) :
    (isS l k' 3 = true → wordL 11 ∈ H → wordL 12 ∈ H → ruleP (Kd l k) = .ok (r, Kd l (k' + 1))) ∧ (¬(isS l k' 3 = true ∧ wordL 11 ∈ H ∧ wordL 12 ∈ H) → ruleP (Kd l k) = .error (Kd l k')) := by
  have hq : clausesA H r (Kd l k') = .ok (H, r, Kd l k') := by
    rcases isS_not hs with h1 | ⟨t, h1, h2⟩
    · rw [Kd_none (List.getElem?_eq_none_iff.1 h1)]; rfl
    · rw [Kd_some h1, clausesA_cons]; exact if_neg h2
  rw [h, hq]
  refine ⟨fun h3 hf ht => ?_, fun hn => ?_⟩
  · obtain ⟨t, h1, h2⟩ := isS_yes h3
    show shutR _ = _
    rw [Kd_some h1]
    exact if_pos ⟨h2, hf, ht⟩
  · show shutR _ = _
    cases ht : l[k']? with
    | none => rw [Kd_none (List.getElem?_eq_none_iff.1 ht)]; rfl
    | some t =>
      rw [Kd_some ht]
      exact if_neg (fun hh => hn ⟨by have h3 : t.kind = 3 := hh.1; unfold isS; rw [ht]; simp [h3], hh.2⟩)
theorem while_len (P : UInt8 → Bool) : ∀ l : List UInt8, (l.takeWhile P).length + (l.dropWhile P).length = l.length
  | [] => rfl
  | c :: r => by
    cases h : P c with
    | true => rw [List.takeWhile_cons_of_pos h, List.dropWhile_cons_of_pos h]; have := while_len P r; simp; omega
    | false => rw [List.takeWhile_cons_of_neg (by simp [h]), List.dropWhile_cons_of_neg (by simp [h])]; simp
theorem while_pos {P : UInt8 → Bool} {c : UInt8} {r : List UInt8} (h : P c = true) : ((c :: r).dropWhile P).length ≤ r.length ∧ ((c :: r).takeWhile P).length ≤ r.length + 1 := by
  have := while_len P (c :: r)
  refine ⟨drop_less h, ?_⟩
  simp only [List.length_cons] at this
  omega
theorem scan_few : ∀ (f i : Nat) (s : List UInt8), (scan f i s).1.length ≤ s.length ∧ ∀ t ∈ (scan f i s).1, t.text.length ≤ s.length := by
  intro f
  induction f with
  | zero => intro i s; exact ⟨Nat.zero_le _, fun t h => by simp [scan] at h⟩
  | succ f ih =>
    intro i s
    cases s with
    | nil => exact ⟨Nat.zero_le _, fun t h => by simp [scan] at h⟩
    | cons c r =>
      unfold scan
      split
      · obtain ⟨h1, h2⟩ := ih (i + 1) r
        exact ⟨by simp; omega, fun t ht => by have := h2 t ht; simp; omega⟩
      · split
        · rename_i h35
          have hc : isRm c = true := by rw [eq_of_beq h35]; decide
          obtain ⟨h0, _⟩ := while_pos (r := r) hc
          obtain ⟨h1, h2⟩ := ih (i + ((c :: r).takeWhile isRm).length) ((c :: r).dropWhile isRm)
          exact ⟨by simp only [List.length_cons]; omega, fun t ht => by have := h2 t ht; simp only [List.length_cons]; omega⟩
        · split
          · rename_i h3
            have hc : isWd c = true := by unfold isWd; rw [h3]; rfl
            obtain ⟨h0, h00⟩ := while_pos (r := r) hc
            obtain ⟨h1, h2⟩ := ih (i + ((c :: r).takeWhile isWd).length) ((c :: r).dropWhile isWd)
            refine ⟨by simp only [List.length_cons]; omega, fun t ht => ?_⟩
            rw [List.mem_cons] at ht
            rcases ht with rfl | ht
            · exact h00
            · have := h2 t ht; simp only [List.length_cons]; omega
          · split
            · rename_i h4
              have hc : isNm c = true := by unfold isNm; rw [h4]; rfl
              obtain ⟨h0, h00⟩ := while_pos (r := r) hc
              obtain ⟨h1, h2⟩ := ih (i + ((c :: r).takeWhile isNm).length) ((c :: r).dropWhile isNm)
              refine ⟨by simp only [List.length_cons]; omega, fun t ht => ?_⟩
              rw [List.mem_cons] at ht
              rcases ht with rfl | ht
              · exact h00
              · have := h2 t ht; simp only [List.length_cons]; omega
            · split
              · obtain ⟨h1, h2⟩ := ih (i + 1) r
                refine ⟨by simp only [List.length_cons]; omega, fun t ht => ?_⟩
                rw [List.mem_cons] at ht
                rcases ht with rfl | ht
                · simp
                · have := h2 t ht; simp only [List.length_cons]; omega
              · exact ⟨Nat.zero_le _, fun t h => by simp at h⟩
theorem split_few {s : List UInt8} {l : List Tok} {a : Int} (h : splitS s = (l, a, 0)) : l.length ≤ 10000 ∧ ∀ t ∈ l, t.text.length ≤ 10000 := by
  unfold splitS at h
  split at h
  · simp at h
  · rename_i h1
    split at h
    · rename_i l' h2
      simp only [Prod.mk.injEq] at h
      rw [← h.1]
      have h3 := scan_few (s.drop 0).length 0 (s.drop 0)
      have h4 : (scan (s.drop 0).length 0 (s.drop 0)).1 = l' := by
        show (scanAt s 0).1 = _
        rw [h2]
      rw [h4] at h3
      simp only [List.drop_zero] at h3
      exact ⟨by omega, fun t ht => by have := h3.2 t ht; omega⟩
    · simp at h
def rrow (qs : List (Rul × WSl)) : List Value := qs.flatMap fun q => (rarr q.1 q.2).toList
theorem rrow_app (a b : List (Rul × WSl)) : rrow (a ++ b) = rrow a ++ rrow b := List.flatMap_append
theorem rrow_len (qs : List (Rul × WSl)) : (rrow qs).length = qs.length * 17 := by
  induction qs with
  | nil => rfl
  | cons x r ih => simp only [rrow, List.flatMap_cons, List.length_append, List.length_cons] at *; rw [ih]; simp [rarr]; omega
theorem rrow_at {qs : List (Rul × WSl)} {i j : Nat} {q : Rul × WSl} {v : Value} (h : qs[i]? = some q) (hv : (rarr q.1 q.2)[j]? = some v) : (rrow qs)[i * 17 + j]? = some v := by
  have hj : j < 17 := (Array.getElem?_eq_some_iff.1 hv).1
  induction qs generalizing i with
  | nil => simp at h
  | cons x r ih =>
    cases i with
    | zero =>
      simp at h
      subst h
      simp only [rrow, List.flatMap_cons, Nat.zero_mul, Nat.zero_add]
      rw [List.getElem?_append_left (by simpa [rarr] using hj)]
      simpa using hv
    | succ i =>
      simp at h
      have := ih h
      simp only [rrow, List.flatMap_cons]
      rw [List.getElem?_append_right (by simp [rarr]; omega)]
      rw [show (i + 1) * 17 + j - (rarr x.1 x.2).toList.length = i * 17 + j by simp [rarr]; omega]
      exact this
/-- A slice that reads as rules. -/
structure RRul (w : World) (A : Option Addr) (n c : Nat) (qs : List (Rul × WSl)) : Prop where
  len : qs.length = n
  cap : n ≤ c
  non : A = none → n = 0 ∧ c = 0
  row : 0 < n → ∃ b off, A = some ⟨b, off, none⟩ ∧ b < w.heap.size ∧ ∀ (i : Nat) (q : Rul × WSl) (j : Nat) (v : Value), qs[i]? = some q → (rarr q.1 q.2)[j]? = some v → w.cell? ⟨b, off + i * 17 + j, none⟩ = some v
  wants : ∀ q ∈ qs, WArg w q.1.x q.2
theorem RRul.on {w w' : World} {A : Option Addr} {n c : Nat} {qs : List (Rul × WSl)} (h : RRul w A n c qs) (hb : Below w.heap.size w w') : RRul w' A n c qs := by
  refine ⟨h.len, h.cap, h.non, fun hn => ?_, fun q hq => (h.wants q hq).on hb⟩
  obtain ⟨b, off, hA, hlt, hc⟩ := h.row hn
  exact ⟨b, off, hA, Nat.lt_of_lt_of_le hlt hb.size, fun i q j v hq hv => (hb.cell (p := ⟨b, off + i * 17 + j, none⟩) hlt).trans (hc i q j v hq hv)⟩
def ParseAns (x : List Rul × Int × Int) (w : World) (e : Ending) (w' : World) : Prop :=
  Below w.heap.size w w' ∧ ∃ A c qs, qs.map (·.1) = x.1 ∧ e = .returned (.tuple #[.slice A qs.length c, .int .i64 x.2.1, .int .i64 x.2.2]) ∧ RRul w' A qs.length c qs
theorem parseAns_none {s : List UInt8} {a e : Int} {w w' : World} (h : parseS s = ([], a, e)) (hb : Below w.heap.size w w') : ParseAns (parseS s) w (.returned (.tuple #[.slice none 0 0, .int .i64 a, .int .i64 e])) w' := by
  rw [h]
  exact ⟨hb, none, 0, [], rfl, rfl, ⟨rfl, Nat.le_refl _, fun _ => ⟨rfl, rfl⟩, fun hn => by simp at hn, fun q hq => by simp at hq⟩⟩
def contR (done : List (Nat × Rul)) : Except (List Tk) (List (Nat × Rul)) → Except (List Tk) (List (Nat × Rul))
  | .ok l => .ok (done ++ l)
  | .error e => .error e
theorem rules_on {l : List Tok} {k k' : Nat} {r : Rul} (hk : k < l.length) (h : ruleP (Kd l k) = .ok (r, Kd l k')) (done : List (Nat × Rul)) : contR done (rulesA (Kd l k)) = contR (done ++ [(l.length - k, r)]) (rulesA (Kd l k')) := by
  have ht : l[k]? = some l[k] := List.getElem?_eq_getElem hk
  have hlen : (Kd l k).length = l.length - k := Kd_len
  rw [Kd_some ht] at h hlen ⊢
  rw [rulesA_cons, h]
  simp only
  rw [hlen]
  cases rulesA (Kd l k') with
  | error e => rfl
  | ok x => simp [contR]
theorem rules_bad {l : List Tok} {k k' : Nat} (hk : k < l.length) (h : ruleP (Kd l k) = .error (Kd l k')) (done : List (Nat × Rul)) : contR done (rulesA (Kd l k)) = .error (Kd l k') := by
  have ht : l[k]? = some l[k] := List.getElem?_eq_getElem hk
  rw [Kd_some ht] at h ⊢
  rw [rulesA_cons, h]
  rfl
def longS (s : List UInt8) (l : List Tok) (done : List (Nat × Rul)) : Int := match done[20]? with
  | some (k, _) => posAt s l (l.length - k)
  | none => -1
def In31 (v : Int) : Prop := 0 ≤ v ∧ v ≤ 2147483647
/-- Numbers as a text has them. -/
structure NumOk (r : Rul) : Prop where
  pri : In31 r.pri
  frm : In31 r.x.frm
  too : In31 r.x.too
  bnd : In31 r.x.bnd
  via : ∀ v ∈ r.x.via, In31 v
  nds : ∀ v ∈ r.x.nds, In31 v
  lks : ∀ v ∈ r.x.lks, In31 v
  cls : ∀ v ∈ r.x.cls, In31 v
  pr : In31 r.m.pr
  sp : In31 r.m.sp
  dp : In31 r.m.dp
  src : ∃ a n : Nat, a < 4294967296 ∧ n ≤ 32 ∧ r.m.sa = maskS a n ∧ r.m.sl = (n : Int)
  dst : ∃ a n : Nat, a < 4294967296 ∧ n ≤ 32 ∧ r.m.da = maskS a n ∧ r.m.dl = (n : Int)
theorem numT_in {t : Tk} {v : Nat} (h : numT t = some v) : In31 (v : Int) := by
  unfold numT at h
  split at h
  · rename_i hh
    have h1 := numS_le hh.2
    simp only [Option.some.injEq] at h
    unfold In31
    omega
  · cases h
theorem num1_in {ts t : List Tk} {v : Nat} (h : num1 ts = .ok (v, t)) : In31 (v : Int) := by
  cases ts with
  | nil => cases h
  | cons a r =>
    simp only [num1] at h
    split at h
    · rename_i h1; cases h; exact numT_in h1
    · cases h
theorem more_in : ∀ {ts t : List Tk} {vs : List Nat}, more ts = .ok (vs, t) → ∀ v ∈ vs, In31 (v : Int) := by
  intro ts
  induction ts with
  | nil => intro t vs h; cases h; intro v hv; simp at hv
  | cons a r ih =>
    intro t vs h
    unfold more at h
    split at h
    · split at h
      · rename_i h1
        split at h
        · rename_i h3
          cases h
          intro v hv
          rw [List.mem_cons] at hv
          rcases hv with rfl | hv
          · exact numT_in h1
          · exact ih h3 v hv
        · cases h
      · cases h
    · cases h; intro v hv; simp at hv
theorem nums1_in {ts t : List Tk} {vs : List Nat} (h : nums1 ts = .ok (vs, t)) : ∀ v ∈ vs.map Int.ofNat, In31 v := by
  unfold nums1 at h
  split at h
  · rename_i h1
    split at h
    · rename_i h2
      cases h
      intro v hv
      simp only [List.map_cons, List.mem_cons, List.mem_map] at hv
      rcases hv with rfl | ⟨u, hu, rfl⟩
      · exact num1_in h1
      · exact more_in h2 u hu
    · cases h
  · cases h
theorem readS_in {l : List UInt8} {p : Nat × Nat} (h : readS l = some p) : ∃ a n : Nat, a < 4294967296 ∧ n ≤ 32 ∧ p.1 = maskS a n ∧ p.2 = n := by
  unfold readS at h
  split at h
  · unfold readNums at h
    split at h
    · rename_i a b c d n _
      split at h
      · cases h
      · rename_i hh
        simp only [not_or, Int.not_lt] at hh
        obtain ⟨ha, hb, hc, hd, hn⟩ := hh
        have h1 := numS_le ha; have h2 := numS_le hb; have h3 := numS_le hc; have h4 := numS_le hd; have h5 := numS_le hn
        simp only [Option.some.injEq] at h
        subst h
        exact ⟨_, _, by omega, by omega, rfl, rfl⟩
    · cases h
  · cases h
theorem pref1_in {ts t : List Tk} {p : Nat × Nat} (h : pref1 ts = .ok (p, t)) : ∃ a n : Nat, a < 4294967296 ∧ n ≤ 32 ∧ p.1 = maskS a n ∧ p.2 = n := by
  cases ts with
  | nil => cases h
  | cons a r =>
    simp only [pref1] at h
    split at h
    · split at h
      · rename_i h1; cases h; exact readS_in h1
      · cases h
    · cases h
theorem clauseI_in {i : Nat} {r r' : Rul} {ts t : List Tk} (hr : NumOk r) (h : clauseI i r ts = .ok (r', t)) : NumOk r' := by
  have hN : ∀ {f : Rul → Nat → Rul}, (∀ v : Nat, In31 (v : Int) → NumOk (f r v)) → withN f r ts = .ok (r', t) → NumOk r' := by
    intro f hf h
    unfold withN at h
    split at h
    · rename_i h1; cases h; exact hf _ (num1_in h1)
    · cases h
  have hL : ∀ {f : Rul → List Int → Rul}, (∀ vs : List Int, (∀ v ∈ vs, In31 v) → NumOk (f r vs)) → withL f r ts = .ok (r', t) → NumOk r' := by
    intro f hf h
    unfold withL at h
    split at h
    · rename_i h1; cases h; exact hf _ (nums1_in h1)
    · cases h
  have hP : ∀ {f : Rul → Nat → Nat → Rul}, (∀ a n a' n' : Nat, a < 4294967296 → n ≤ 32 → a' = maskS a n → n' = n → NumOk (f r a' n')) → withP f r ts = .ok (r', t) → NumOk r' := by
    intro f hf h
    unfold withP at h
    split at h
    · rename_i h1; cases h
      obtain ⟨a, n, h1, h2, h3, h4⟩ := pref1_in h1
      exact hf a n _ _ h1 h2 h3 h4
    · cases h
  unfold clauseI at h
  split at h
  · exact hL (fun v hv => ⟨hr.pri, hr.frm, hr.too, hr.bnd, hv, hr.nds, hr.lks, hr.cls, hr.pr, hr.sp, hr.dp, hr.src, hr.dst⟩) h
  · exact hL (fun v hv => ⟨hr.pri, hr.frm, hr.too, hr.bnd, hr.via, hv, hr.lks, hr.cls, hr.pr, hr.sp, hr.dp, hr.src, hr.dst⟩) h
  · exact hL (fun v hv => ⟨hr.pri, hr.frm, hr.too, hr.bnd, hr.via, hr.nds, hv, hr.cls, hr.pr, hr.sp, hr.dp, hr.src, hr.dst⟩) h
  · exact hL (fun v hv => ⟨hr.pri, hr.frm, hr.too, hr.bnd, hr.via, hr.nds, hr.lks, hv, hr.pr, hr.sp, hr.dp, hr.src, hr.dst⟩) h
  · exact hN (fun v hv => ⟨hr.pri, hr.frm, hr.too, hv, hr.via, hr.nds, hr.lks, hr.cls, hr.pr, hr.sp, hr.dp, hr.src, hr.dst⟩) h
  · exact hP (fun a n a' n' h1 h2 h3 h4 => ⟨hr.pri, hr.frm, hr.too, hr.bnd, hr.via, hr.nds, hr.lks, hr.cls, hr.pr, hr.sp, hr.dp, ⟨a, n, h1, h2, h3, by rw [h4]⟩, hr.dst⟩) h
  · exact hP (fun a n a' n' h1 h2 h3 h4 => ⟨hr.pri, hr.frm, hr.too, hr.bnd, hr.via, hr.nds, hr.lks, hr.cls, hr.pr, hr.sp, hr.dp, hr.src, ⟨a, n, h1, h2, h3, by rw [h4]⟩⟩) h
  · exact hN (fun v hv => ⟨hr.pri, hr.frm, hr.too, hr.bnd, hr.via, hr.nds, hr.lks, hr.cls, hv, hr.sp, hr.dp, hr.src, hr.dst⟩) h
  · exact hN (fun v hv => ⟨hr.pri, hr.frm, hr.too, hr.bnd, hr.via, hr.nds, hr.lks, hr.cls, hr.pr, hv, hr.dp, hr.src, hr.dst⟩) h
  · exact hN (fun v hv => ⟨hr.pri, hr.frm, hr.too, hr.bnd, hr.via, hr.nds, hr.lks, hr.cls, hr.pr, hr.sp, hv, hr.src, hr.dst⟩) h
  · cases h; exact ⟨hr.pri, hr.frm, hr.too, hr.bnd, hr.via, hr.nds, hr.lks, hr.cls, hr.pr, hr.sp, hr.dp, hr.src, hr.dst⟩
  · exact hN (fun v hv => ⟨hr.pri, hv, hr.too, hr.bnd, hr.via, hr.nds, hr.lks, hr.cls, hr.pr, hr.sp, hr.dp, hr.src, hr.dst⟩) h
  · exact hN (fun v hv => ⟨hr.pri, hr.frm, hv, hr.bnd, hr.via, hr.nds, hr.lks, hr.cls, hr.pr, hr.sp, hr.dp, hr.src, hr.dst⟩) h
theorem clausesP_in : ∀ (f : Nat) {had had' : List (List UInt8)} {r r' : Rul} {ts t : List Tk}, NumOk r → clausesP f had r ts = .ok (had', r', t) → NumOk r' := by
  intro f
  induction f with
  | zero => intro had had' r r' ts t hr h; cases h; exact hr
  | succ f ih =>
    intro had had' r r' ts t hr h
    cases ts with
    | nil => cases h; exact hr
    | cons a ts =>
      unfold clausesP at h
      split at h
      · split at h
        · cases h
        · split at h
          · rename_i h3
            exact ih (clauseI_in hr h3) h
          · cases h
      · cases h; exact hr
theorem ruleP_in {ts t : List Tk} {r : Rul} (h : ruleP ts = .ok (r, t)) : NumOk r := by
  cases ts with
  | nil => cases h
  | cons a ts =>
    simp only [ruleP] at h
    split at h
    · cases ts with
      | nil => cases h
      | cons b ts =>
        simp only [nameP] at h
        split at h
        · split at h
          · rename_i h1
            split at h
            · rename_i x h2
              obtain ⟨had, r', t'⟩ := x
              have z : In31 0 := ⟨by omega, by omega⟩
              have hn : ∃ a n : Nat, a < 4294967296 ∧ n ≤ 32 ∧ (0 : Nat) = maskS a n ∧ (0 : Int) = (n : Int) := ⟨0, 0, by omega, by omega, by rw [maskS_zero (by omega)], rfl⟩
              have := clausesP_in _ (r := { noRul with name := b.2, pri := _ }) ⟨num1_in h1, z, z, z, fun v hv => by simp [noRul, noWnt] at hv, fun v hv => by simp [noRul, noWnt] at hv, fun v hv => by simp [noRul, noWnt] at hv, fun v hv => by simp [noRul, noWnt] at hv, z, z, z, hn, hn⟩ h2
              cases t' with
              | nil => cases h
              | cons c t' =>
                simp only [shutR] at h
                split at h
                · cases h; exact this
                · cases h
            · cases h
          · cases h
        · cases h
    · cases h
theorem own_larg {w : World} {A : Option Addr} {n c : Nat} {l : List Int} (h : w.ownsRow 0 3 1 (.slice A n c) n (icells l)) (hr : ∀ x ∈ l, -9223372036854775808 ≤ x ∧ x ≤ 9223372036854775807) : LArg w A n c l := by
  have hl : l.length = n := by have := h.1; rw [icells_len] at this; omega
  refine ⟨own_ri h hl, ?_, ?_, ?_, hr⟩
  · rcases h.2 with ⟨h1, h2⟩ | ⟨g, cap, cur, h1, _, _, h2, _⟩
    · omega
    · simp only [Value.slice.injEq] at h1; omega
  · intro hA
    subst hA
    rcases h.2 with ⟨h1, h2⟩ | ⟨g, cap, cur, h1, _⟩
    · simp only [Value.slice.injEq] at h1; exact ⟨h2, h1.2.2⟩
    · simp at h1
  · rcases h.2 with ⟨h1, h2⟩ | ⟨g, cap, cur, h1, _, _, h2, h3, _⟩
    · rw [h2]; unfold maxLen; omega
    · simp only [Value.slice.injEq] at h1; omega
/-- Numbers that fit. -/
def Fits (x : Wnt) : Prop := (-9223372036854775808 ≤ x.bnd ∧ x.bnd ≤ 9223372036854775807) ∧ (∀ v ∈ x.via, -9223372036854775808 ≤ v ∧ v ≤ 9223372036854775807) ∧ (∀ v ∈ x.nds, -9223372036854775808 ≤ v ∧ v ≤ 9223372036854775807) ∧ (∀ v ∈ x.lks, -9223372036854775808 ≤ v ∧ v ≤ 9223372036854775807) ∧ (∀ v ∈ x.cls, -9223372036854775808 ≤ v ∧ v ≤ 9223372036854775807)
theorem fits_of {r : Rul} (h : NumOk r) : Fits r.x := by
  have k : ∀ {v : Int}, In31 v → -9223372036854775808 ≤ v ∧ v ≤ 9223372036854775807 := fun h => ⟨by have := h.1; omega, by have := h.2; omega⟩
  exact ⟨k h.bnd, fun v hv => k (h.via v hv), fun v hv => k (h.nds v hv), fun v hv => k (h.lks v hv), fun v hv => k (h.cls v hv)⟩
theorem rown_warg {w : World} {x : Wnt} {y : WSl} (h : ROwn w x y) (hf : Fits x) : WArg w x y := ⟨own_larg h.via hf.2.1, own_larg h.nds hf.2.2.1, own_larg h.lks hf.2.2.2.1, own_larg h.cls hf.2.2.2.2, hf.1⟩
theorem own_rrul {w : World} {base : Nat} {A : Option Addr} {c : Nat} {qs : List (Rul × WSl)} (h : w.ownsRow base 67 17 (.slice A qs.length c) qs.length (rrow qs)) (hl : ∀ q ∈ qs, WArg w q.1.x q.2) : RRul w A qs.length c qs := by
  refine ⟨rfl, ?_, ?_, fun hn => ?_, hl⟩
  · rcases h.2 with ⟨h1, h2⟩ | ⟨g, cap, cur, h1, _, _, h2, _⟩
    · omega
    · simp only [Value.slice.injEq] at h1; omega
  · intro hA
    subst hA
    rcases h.2 with ⟨h1, h2⟩ | ⟨g, cap, cur, h1, _⟩
    · simp only [Value.slice.injEq] at h1; exact ⟨h2, h1.2.2⟩
    · simp at h1
  · rcases h.2 with ⟨_, h2⟩ | ⟨g, cap, cur, h1, _, hg, _⟩
    · omega
    · simp only [Value.slice.injEq] at h1
      obtain ⟨rfl, _, rfl⟩ := h1
      refine ⟨g, 0, rfl, pst_lt hg, fun i q j v hq hv => ?_⟩
      have k1 := h.cells (g := g) rfl _ _ (rrow_at hq hv)
      rw [Go.WideShapes.add_plain] at k1
      simpa [Nat.add_assoc] using k1
theorem scan_pos : ∀ (f i : Nat) (s : List UInt8), ∀ t ∈ (scan f i s).1, 0 ≤ t.pos := by
  intro f
  induction f with
  | zero => intro i s t h; simp [scan] at h
  | succ f ih =>
    intro i s t h
    cases s with
    | nil => simp [scan] at h
    | cons c r =>
      unfold scan at h
      split at h
      · exact ih _ _ t h
      · split at h
        · exact ih _ _ t h
        · split at h
          · rw [List.mem_cons] at h
            rcases h with rfl | h
            · exact Int.natCast_nonneg _
            · exact ih _ _ t h
          · split at h
            · rw [List.mem_cons] at h
              rcases h with rfl | h
              · exact Int.natCast_nonneg _
              · exact ih _ _ t h
            · split at h
              · rw [List.mem_cons] at h
                rcases h with rfl | h
                · exact Int.natCast_nonneg _
                · exact ih _ _ t h
              · simp at h
theorem split_pos {s : List UInt8} {l : List Tok} {a : Int} (h : splitS s = (l, a, 0)) : ∀ t ∈ l, 0 ≤ t.pos := by
  unfold splitS at h
  split at h
  · simp at h
  · split at h
    · rename_i l' h2
      simp only [Prod.mk.injEq] at h
      rw [← h.1]
      intro t ht
      have h3 : t ∈ (scan (s.drop 0).length 0 (s.drop 0)).1 := by
        show t ∈ (scanAt s 0).1
        rw [h2]; exact ht
      exact scan_pos _ _ _ t h3
    · simp at h
theorem long_on {s : List UInt8} {l : List Tok} {done : List (Nat × Rul)} {k : Nat} {r : Rul} {t : Tok} (hk : l[k]? = some t) : longS s l (done ++ [(l.length - k, r)]) = if done.length = 20 then t.pos else longS s l done := by
  have hlt := (List.getElem?_eq_some_iff.1 hk).1
  unfold longS
  rcases Nat.lt_trichotomy done.length 20 with h | h | h
  · rw [if_neg (by omega), List.getElem?_eq_none (by simp; omega), List.getElem?_eq_none (by omega)]
  · rw [if_pos h, List.getElem?_append_right (by omega), h]
    simp only [Nat.sub_self, List.getElem?_cons_zero]
    unfold posAt
    rw [show l.length - (l.length - k) = k by omega, hk]
  · rw [if_neg (by omega), List.getElem?_append_left (by omega)]
theorem parse_bad {s : List UInt8} {l : List Tok} {a : Int} {k : Nat} (h : splitS s = (l, a, 0)) (hr : rulesA (Kd l 0) = .error (Kd l k)) (hk : k ≤ l.length) : parseS s = ([], posAt s l k, 3) := by
  unfold parseS
  rw [h]
  simp only [if_pos]
  rw [show l.map era = Kd l 0 by simp [Kd], hr]
  simp only [Kd_len]
  rw [show l.length - (l.length - k) = k by omega]
theorem parse_ok {s : List UInt8} {l : List Tok} {a : Int} {done : List (Nat × Rul)} (h : splitS s = (l, a, 0)) (hr : rulesA (Kd l 0) = .ok done) : parseS s = if 20 < done.length then ([], longS s l done, 6) else (done.map (·.2), -1, 0) := by
  unfold parseS
  rw [h]
  simp only [if_pos]
  rw [show l.map era = Kd l 0 by simp [Kd], hr]
  simp only
  unfold longS
  by_cases hd : 20 < done.length
  · rw [if_pos hd, List.getElem?_eq_getElem hd]
  · rw [if_neg hd, List.getElem?_eq_none (by omega)]
theorem long_range {s : List UInt8} {l : List Tok} {a : Int} (h : splitS s = (l, a, 0)) (done : List (Nat × Rul)) : (20 < done.length → 0 ≤ longS s l done) ∧ (done.length ≤ 20 → longS s l done = -1) := by
  unfold longS
  refine ⟨fun hd => ?_, fun hd => ?_⟩
  · rw [List.getElem?_eq_getElem hd]
    simp only
    unfold posAt
    split
    · rename_i ht
      exact split_pos h _ (List.mem_of_getElem? ht)
    · omega
  · rw [List.getElem?_eq_none (by omega)]
theorem load_rule_lit {ops : Array Oper} {rest : List Oper} {o : Oper} {a : Act} {w : World} {Q : Exit → Act → World → Prop} {B : Nat} {r : Rul} {y : WSl} (h : RBox B r y w) (hgd : o.guard = none) (x : Operand) (ho : o.op = .load 67 x) (hx : a.eval x = .pointer (some ⟨B, 0, none⟩))
    (k : wpList Tryd.prog ops Q rest (a.put o.dst (.agg #[.string (txt r.name), .int .i64 r.pri, .int .u32 (r.m.sa : Int), .int .i64 r.m.sl, .int .u32 (r.m.da : Int), .int .i64 r.m.dl, .int .i64 r.m.pr, .int .i64 r.m.sp, .int .i64 r.m.dp,
  .int .i64 r.x.frm, .int .i64 r.x.too, .int .i64 r.x.bnd, .slice y.av y.nv y.cv, .slice y.an y.nn y.cn, .slice y.al y.nl y.cl, .slice y.ac y.nc y.cc, .bool r.strict])) w) : wpList Tryd.prog ops Q (o :: rest) a w :=
  load_rule h hgd x ho hx k
theorem decL_short (n : Nat) (h : n < 9223372036854775808) : (decL n).length ≤ 19 := decL_len 18 n (by omega)
/-- A number of a clause. -/
def showN (name : List UInt8) (n : Int) : List UInt8 := if n ≤ 0 then [] else ([32] ++ name ++ [32]) ++ decL n.toNat
/-- Numbers of a clause. -/
def dig1 (v : Int) : List UInt8 := [32] ++ decL v.toNat
def showLs (name : List UInt8) (L : List Int) : List UInt8 := if L = [] then [] else ([32] ++ name) ++ L.flatMap dig1
theorem digs_len (L : List Int) (h : ∀ v ∈ L, In31 v) : (L.flatMap dig1).length ≤ 20 * L.length := by
  induction L with
  | nil => simp
  | cons v r ih =>
    have h1 := ih (fun u hu => h u (by simp [hu]))
    have h2 := decL_short v.toNat (by have := h v (by simp); unfold In31 at this; omega)
    simp only [List.flatMap_cons, List.length_append, List.length_cons, dig1, List.length_nil]
    omega
def headR (r : Rul) : List UInt8 := [114, 117, 108, 101, 32] ++ r.name ++ [32] ++ decL r.pri.toNat ++ [32, 102, 114, 111, 109, 32] ++ decL r.x.frm.toNat ++ [32, 116, 111, 32] ++ decL r.x.too.toNat
def listR (r : Rul) : List UInt8 := showLs (wordL 0) r.x.via ++ showLs (wordL 1) r.x.nds ++ showLs (wordL 2) r.x.lks ++ showLs (wordL 3) r.x.cls ++ showN (wordL 4) r.x.bnd
def prefR (name : List UInt8) (a : Nat) (n : Int) : List UInt8 := if 0 < n then [32] ++ name ++ [32] ++ showS a n else []
def portR (r : Rul) : List UInt8 := showN (wordL 7) r.m.pr ++ showN (wordL 8) r.m.sp ++ showN (wordL 9) r.m.dp
/-- A rule, in a line of its own. -/
def showR (r : Rul) : List UInt8 := headR r ++ listR r ++ prefR (wordL 5) r.m.sa r.m.sl ++ prefR (wordL 6) r.m.da r.m.dl ++ portR r ++ (if r.strict then [32] ++ wordL 10 else []) ++ [59, 10]
/-- What Show tells. -/
def showAll (L : List Rul) : List UInt8 := L.flatMap showR
/-- A rule as a text has it, not too long. -/
structure Fair (r : Rul) : Prop where
  nums : NumOk r
  name : r.name.length ≤ 10000
  via : r.x.via.length ≤ 10001
  nds : r.x.nds.length ≤ 10001
  lks : r.x.lks.length ≤ 10001
  cls : r.x.cls.length ≤ 10001
theorem showN_len (name : List UInt8) (n : Int) (h : In31 n) : (showN name n).length ≤ name.length + 21 := by
  unfold showN
  split
  · simp
  · have := decL_short n.toNat (by unfold In31 at h; omega)
    simp only [List.length_append, List.length_cons, List.length_nil]
    omega
theorem showLs_len (name : List UInt8) (L : List Int) (h : ∀ v ∈ L, In31 v) : (showLs name L).length ≤ name.length + 1 + 20 * L.length := by
  unfold showLs
  split
  · simp
  · have := digs_len L h
    simp only [List.length_append, List.length_cons, List.length_nil]
    omega
theorem cut32_small (n : Int) : cut32 n < 10000 := by have := cut32_le n; omega
theorem showS_len (a : Nat) (n : Int) (h : a < 4294967296) : (showS a n).length ≤ 100 := by
  unfold showS
  have h0 := maskS_lt (n := cut32 n) h
  have h1 := decL_short (maskS a (cut32 n) / 16777216) (by omega)
  have h2 := decL_short (maskS a (cut32 n) / 65536 % 256) (by omega)
  have h3 := decL_short (maskS a (cut32 n) / 256 % 256) (by omega)
  have h4 := decL_short (maskS a (cut32 n) % 256) (by omega)
  have h5 := decL_short (cut32 n) (by have := cut32_small n; omega)
  simp only [List.length_append, List.length_cons, List.length_nil]
  omega
theorem src_lt {r : Rul} (h : NumOk r) : r.m.sa < 4294967296 ∧ r.m.da < 4294967296 := by
  obtain ⟨a, n, h1, _, h3, _⟩ := h.src
  obtain ⟨a', n', h1', _, h3', _⟩ := h.dst
  exact ⟨by rw [h3]; exact maskS_lt h1, by rw [h3']; exact maskS_lt h1'⟩
theorem dec_int (v : Int) (h : In31 v) (w : World) : Calls Tryd.prog 31 #[.int .i64 v] w fun e w' => e = .returned (.string (txt (decL v.toNat))) ∧ w = w' := by
  have := dec_any v.toNat (by unfold In31 at h; omega) w
  rwa [Int.toNat_of_nonneg h.1] at this
theorem dec31 {v : Int} (h : In31 v) : (decL v.toNat).length ≤ 19 := decL_short v.toNat (by unfold In31 at h; omega)
/-- Where a rule that is shown lies. -/
structure SSt (w : World) (BS : Nat) (r : Rul) (y : WSl) (wx : World) : Prop where
  bel : Below w.heap.size w wx
  box : RBox BS r y wx
theorem SSt.on {w : World} {BS : Nat} {r : Rul} {y : WSl} {wx wy : World} (h : SSt w BS r y wx) (hb : Below wx.heap.size wx wy) : SSt w BS r y wy := ⟨h.bel.trans (hb.mono h.bel.size), box_below h.box hb (pst_lt h.box)⟩
theorem store_rule_lit {ops : Array Oper} {rest : List Oper} {o : Oper} {a : Act} {w : World} {Q : Exit → Act → World → Prop} {B : Nat} {r0 r : Rul} {y0 y : WSl} (h : RBox B r0 y0 w) (hgd : o.guard = none) (x z : Operand) (ho : o.op = .store 67 x z) (hx : a.eval x = .pointer (some ⟨B, 0, none⟩))
    (hz : a.eval z = .agg #[.string (txt r.name), .int .i64 r.pri, .int .u32 (r.m.sa : Int), .int .i64 r.m.sl, .int .u32 (r.m.da : Int), .int .i64 r.m.dl, .int .i64 r.m.pr, .int .i64 r.m.sp, .int .i64 r.m.dp, .int .i64 r.x.frm, .int .i64 r.x.too, .int .i64 r.x.bnd, .slice y.av y.nv y.cv, .slice y.an y.nn y.cn, .slice y.al y.nl y.cl, .slice y.ac y.nc y.cc, .bool r.strict])
    (k : wpList Tryd.prog ops Q rest (a.put o.dst undef) (w.setRow B (rarr r y))) : wpList Tryd.prog ops Q (o :: rest) a w :=
  store_rule h hgd x z ho hx hz k
end Go.Proofs.YtcmkcloapenpnaaDoor
