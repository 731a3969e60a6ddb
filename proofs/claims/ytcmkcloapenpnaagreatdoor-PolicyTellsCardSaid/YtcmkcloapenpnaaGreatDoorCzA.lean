/- Cut out of WgA WgB WgC SpA SpB PrA. -/
import Derived.Test.YtcmkcloapenpnaaGreatDoorWdB
import Derived.Test.YtcmkcloapenpnaaGreatDoorWdT
import Derived.Test.YtcmkcloapenpnaaGreatDoorWoA
import Derived.Test.YtcmkcloapenpnaaGreatDoorWoB
import Derived.Deep.Slices
import Derived.Deep.Fields
import Derived.ChangeSame
import Derived.ChangeOld
import Derived.OpenShut
import Derived.Lib.SmallJoins
import Derived.OwnWalk
import Derived.Laws.BitsAllLaws
import Derived.Laws.MakeOwn
import Derived.Deep.Grids
namespace Go.Proofs.YtcmkcloapenpnaaGreatDoor
open Go.ChangeShapes Go.Deep Go.RowKit Go.WideShapes
set_option maxHeartbeats 12800000
set_option maxRecDepth 100000
section
variable {H : Type} {enc : TypeId × Value → H} {P : Program} {w : World} {base : Nat} {spare : Nat → Bool} {held : Bool}
theorem open_slice_fields {t e : TypeId} {fs : Array Field} {fuel : Nat} {cs : List Value} {x : DataW H × List MemPlace} (ht : P.underlying t = some (.slice e)) (he : P.underlying e = some (.struct fs))
    (hone : oneCellFields P fs = true) (hC : P.cellsOf e = fs.size) (h : DataW.trod enc P w base spare held fuel t cs = some x) :
    cs = [.slice none 0 0] ∨
    ∃ (a : Addr) (len cap m : Nat), cs = [.slice (some a) len cap] ∧ len ≤ cap ∧ cap ≤ maxLen ∧ len ≤ m ∧
      ∀ i, i < m → ∃ n : Nat, ∀ (j : Nat) (f : Field), fs[j]? = some f → ∃ (v : Value) (y : DataW H × List MemPlace), w.cell? (a.add (i * fs.size + j)) = some v ∧ DataW.trod enc P w base spare held n f.type [v] = some y := by
  rcases open_slice ht h with h0 | ⟨a, len, cap, m, n, D, Pl, hcs, hb, hl, hm, hmm, hx, hi⟩
  · exact .inl h0.1
  · refine .inr ⟨a, len, cap, m, hcs, hl, hm, by subst hmm; split <;> omega, fun i him => ?_⟩
    obtain ⟨cs', hc, ht'⟩ := hi i him
    rw [hC] at hc
    obtain ⟨ys, n', hn', hy, hlen, hyl, hf⟩ := DataW.trod_struct he ht'
    obtain ⟨_, hcl, hat⟩ := World.cells?_some hc
    refine ⟨n', fun j f hj => ?_⟩
    obtain ⟨ho, hk⟩ := hone_of hone j f hj
    have hjl : j < fs.size := (Array.getElem?_eq_some_iff.1 hj).1
    have hcell := hat j hjl
    have hv : cs'[j]? = some (cs'[j]'(by omega)) := List.getElem?_eq_getElem (by omega)
    have h1 := hf j f hj
    rw [ho, hk] at h1
    have hone' : (cs'.drop j).take 1 = [cs'[j]'(by omega)] := by
      rw [List.drop_eq_getElem_cons (by omega)]
      rfl
    rw [hone'] at h1
    have hys : ys[j]? = some (ys[j]'(by omega)) := List.getElem?_eq_getElem (by omega)
    refine ⟨_, _, ?_, h1.trans hys⟩
    rw [← Go.Deep.add_add, hcell, hv]
end
theorem cell_lt {w : World} {a : Addr} {v : Value} (h : w.cell? a = some v) : a.block < w.heap.size := by
  rcases Nat.lt_or_ge a.block w.heap.size with h1 | h1
  · exact h1
  · simp [World.cell?, Array.getElem?_eq_none h1] at h
structure Lnk where
  a : Int
  b : Int
  m : Int
  c : Int
instance : Inhabited Lnk := ⟨⟨0, 0, 0, 0⟩⟩
/-- A slice value with address A and length n reads as the rows l below block B. -/
def RLnk (w : World) (B : Nat) (A : Option Addr) (n : Nat) (l : List Lnk) : Prop :=
  l.length = n ∧ (0 < n → ∃ b off, A = some ⟨b, off, none⟩ ∧ b < B ∧ ∀ (i : Nat) (e : Lnk), l[i]? = some e → w.cell? ⟨b, off + i * 4, none⟩ = some (.int .i64 e.a) ∧ w.cell? ⟨b, off + i * 4 + 1, none⟩ = some (.int .i64 e.b) ∧ w.cell? ⟨b, off + i * 4 + 2, none⟩ = some (.int .i64 e.m) ∧ w.cell? ⟨b, off + i * 4 + 3, none⟩ = some (.int .i64 e.c))
theorem RLnk.below {w w' : World} {B n : Nat} {A : Option Addr} {l : List Lnk} (h : RLnk w B A n l) (hb : Below B w w') : RLnk w' B A n l := by
  refine ⟨h.1, fun hn => ?_⟩
  obtain ⟨b, off, hA, hB, hc⟩ := h.2 hn
  refine ⟨b, off, hA, hB, fun i e he => ?_⟩
  obtain ⟨h0, h1, h2, h3⟩ := hc i e he
  exact ⟨(hb.cell (p := ⟨b, _, none⟩) hB).trans h0, (hb.cell (p := ⟨b, _, none⟩) hB).trans h1, (hb.cell (p := ⟨b, _, none⟩) hB).trans h2, (hb.cell (p := ⟨b, _, none⟩) hB).trans h3⟩
theorem RLnk.more {w : World} {B B' n : Nat} {A : Option Addr} {l : List Lnk} (h : RLnk w B A n l) (hB : B ≤ B') : RLnk w B' A n l := by
  refine ⟨h.1, fun hn => ?_⟩
  obtain ⟨b, off, hA, hb, hc⟩ := h.2 hn
  exact ⟨b, off, hA, by omega, hc⟩
theorem RLnk.on {a b : World} {A : Option Addr} {n : Nat} {l : List Lnk} (h : RLnk a a.heap.size A n l) (hb : Below a.heap.size a b) : RLnk b b.heap.size A n l := (h.below hb).more hb.size
/-- What is wrong with a link (0: nothing). -/
def lnkErr (nd : Int) (x : Lnk) : Int :=
  if 0 ≤ x.a ∧ x.a < nd ∧ 0 ≤ x.b ∧ x.b < nd ∧ x.a ≠ x.b then (if 1 ≤ x.m ∧ x.m ≤ 16777216 ∧ 0 ≤ x.c ∧ x.c ≤ 62 then 0 else 1) else 4
/-- The first link that is wrong, from number i on. -/
def chk (nd : Int) : List Lnk → Nat → Int × Int
  | [], _ => (-1, 0)
  | x :: r, i => if lnkErr nd x = 0 then chk nd r (i + 1) else ((i : Int), lnkErr nd x)
def checkS (nd : Int) (l : List Lnk) : Int × Int :=
  if 120 < l.length then (-1, 6) else if nd < 1 ∨ 40 < nd then (-1, 1) else chk nd l 0
def endsS (l : List Lnk) (e : Int) : Int × Int × Bool :=
  if e < 0 then (0, 0, false) else
  match l[e.toNat / 2]? with
  | none => (0, 0, false)
  | some x => if e % 2 = 0 then (x.a, x.b, true) else (x.b, x.a, true)
def outS (l : List Lnk) (node : Int) (k : Nat) : List Int := ((List.range k).map (fun (i : Nat) => (i : Int))).filter (fun e => (endsS l e).1 == node)
def backS (e : Int) : Int := if e < 0 then -1 else if e % 2 = 0 then e + 1 else e - 1
theorem chk_step {nd : Int} {l : List Lnk} {i : Nat} {x : Lnk} (h : l[i]? = some x) : chk nd (l.drop i) i = if lnkErr nd x = 0 then chk nd (l.drop (i + 1)) (i + 1) else ((i : Int), lnkErr nd x) := by
  obtain ⟨hi, hx⟩ := List.getElem?_eq_some_iff.1 h
  rw [List.drop_eq_getElem_cons hi, hx]
  rfl
theorem outS_succ (l : List Lnk) (node : Int) (k : Nat) : outS l node (k + 1) = outS l node k ++ (if (endsS l k).1 = node then [(k : Int)] else []) := by
  unfold outS
  rw [List.range_succ, List.map_append, List.filter_append]
  by_cases h : (endsS l k).1 = node <;> simp [h]
theorem outS_len (l : List Lnk) (node : Int) (k : Nat) : (outS l node k).length ≤ k := by
  unfold outS
  exact Nat.le_trans (List.length_filter_le _ _) (by simp)
def icells (l : List Int) : List Value := l.map fun x => .int .i64 x
theorem icells_app (a b : List Int) : icells (a ++ b) = icells a ++ icells b := List.map_append
theorem icells_len (a : List Int) : (icells a).length = a.length := List.length_map _
theorem icells_one (l : List Int) : ∀ u ∈ icells l, u.oneCell' = true := by
  intro u hu
  simp only [icells, List.mem_map] at hu
  obtain ⟨b, _, rfl⟩ := hu
  rfl
/-- A slice value reads as the numbers l below block B. -/
def RInt (w : World) (B : Nat) (A : Option Addr) (n : Nat) (l : List Int) : Prop :=
  l.length = n ∧ (0 < n → ∃ b off, A = some ⟨b, off, none⟩ ∧ b < B ∧ ∀ (i : Nat) (x : Int), l[i]? = some x → w.cell? ⟨b, off + i, none⟩ = some (.int .i64 x))
theorem RInt.below {w w' : World} {B n : Nat} {A : Option Addr} {l : List Int} (h : RInt w B A n l) (hb : Below B w w') : RInt w' B A n l := by
  refine ⟨h.1, fun hn => ?_⟩
  obtain ⟨b, off, hA, hB, hc⟩ := h.2 hn
  exact ⟨b, off, hA, hB, fun i e he => (hb.cell (p := ⟨b, _, none⟩) hB).trans (hc i e he)⟩
theorem RInt.more {w : World} {B B' n : Nat} {A : Option Addr} {l : List Int} (h : RInt w B A n l) (hB : B ≤ B') : RInt w B' A n l := by
  refine ⟨h.1, fun hn => ?_⟩
  obtain ⟨b, off, hA, hb, hc⟩ := h.2 hn
  exact ⟨b, off, hA, by omega, hc⟩
theorem own_ints {w : World} {base m : Nat} {v : Value} {l : List Int} (h : w.ownsRow base 3 1 v m (icells l)) (hl : l.length = m) : ∃ A cap, v = .slice A m cap ∧ m ≤ cap ∧ RInt w w.heap.size A m l := by
  subst hl
  rcases Nat.eq_zero_or_pos l.length with h0 | h0
  · rcases h.2 with ⟨rfl, h1⟩ | ⟨g, cap, cur, rfl, _, _, h2, _⟩
    · exact ⟨none, 0, by rw [h0], by omega, rfl, fun h => by omega⟩
    · exact ⟨_, cap, rfl, by omega, rfl, fun h => by omega⟩
  · rcases h.2 with ⟨_, h1⟩ | ⟨g, cap, cur, rfl, _, hg, h2, _⟩
    · omega
    refine ⟨_, cap, rfl, h2, rfl, fun _ => ⟨g, 0, rfl, ?_, fun i e he => ?_⟩⟩
    · rcases Nat.lt_or_ge g w.heap.size with hlt | hge
      · exact hlt
      · rw [Array.getElem?_eq_none hge] at hg; cases hg
    have k1 := h.cells (g := g) rfl i (.int .i64 e) (by simp [icells, he])
    rw [Go.WideShapes.add_plain] at k1
    exact k1
theorem wf_i64 {a : Int} (h : (Lit.int .i64 a).wf = true) : -9223372036854775808 ≤ a ∧ a ≤ 9223372036854775807 := by
  simp only [Lit.wf, Bool.and_eq_true, decide_eq_true_eq] at h
  have h1 : IntKind.i64.min = -9223372036854775808 := rfl
  have h2 : IntKind.i64.max = 9223372036854775807 := rfl
  rw [h1, h2] at h
  exact h
theorem endsS_none {l : List Lnk} {e : Nat} (h : l.length ≤ e / 2) : endsS l e = (0, 0, false) := by
  unfold endsS
  rw [if_neg (by omega), show (Int.toNat (e : Int)) = e by omega, List.getElem?_eq_none h]
theorem endsS_some {l : List Lnk} {e : Nat} {x : Lnk} (h : l[e / 2]? = some x) : endsS l e = if e % 2 = 0 then (x.a, x.b, true) else (x.b, x.a, true) := by
  unfold endsS
  rw [if_neg (by omega), show (Int.toNat (e : Int)) = e by omega, h]
  simp only
  by_cases h2 : e % 2 = 0
  · rw [if_pos h2, if_pos (by omega)]
  · rw [if_neg h2, if_neg (by omega)]
theorem nat_xor_one (e : Nat) : e ^^^ 1 = if e % 2 = 0 then e + 1 else e - 1 := by
  have h1 : (e ^^^ 1) / 2 = e / 2 := by rw [Nat.xor_div_two]; simp
  have h2 : (e ^^^ 1) % 2 = 1 ↔ ¬(e % 2 = 1 ↔ 1 % 2 = 1) := Nat.xor_mod_two_eq_one
  split <;> omega
theorem xor_one (e : Nat) (h : e < 9223372036854775808) : bits .xor .i64 (e : Int) 1 = if e % 2 = 0 then (e : Int) + 1 else (e : Int) - 1 := by
  have hx : e ^^^ 1 < 2 ^ 63 := Nat.xor_lt_two_pow (by omega) (by omega)
  have h1 : bits .xor .i64 (e : Int) ((1 : Nat) : Int) = ((e ^^^ 1 : Nat) : Int) := by
    show IntKind.i64.wrap ((BitVec.ofInt 64 (e : Int) ^^^ BitVec.ofInt 64 ((1 : Nat) : Int)).toNat : Int) = _
    rw [BitVec.toNat_xor, ofInt_u64 e (by omega), ofInt_u64 1 (by omega), IntKind.wrap_i64]
    omega
  refine h1.trans ?_
  rw [nat_xor_one]
  split <;> omega
theorem below_drewN {B n : Nat} {a w : World} (h : Below B a w) : Below B a (w.drewN n) := ⟨h.os, h.tape, h.output, h.size, h.block⟩
theorem checkS_ok {nd : Int} {l : List Lnk} (h : (checkS nd l).2 = 0) : l.length ≤ 120 ∧ 1 ≤ nd ∧ nd ≤ 40 ∧ (chk nd l 0).2 = 0 := by
  unfold checkS at h
  split at h
  · simp at h
  · split at h
    · simp at h
    · exact ⟨by omega, by omega, by omega, h⟩
theorem ways_facts {l : List Lnk} {k : Nat} (h : k < 2 * l.length) : ∃ (a b : Int) (r : Nat), endsS l (k : Int) = (a, b, true) ∧ endsS l (r : Int) = (b, a, true) ∧ backS (k : Int) = (r : Int) ∧ backS (r : Int) = (k : Int) ∧ r / 2 = k / 2 := by
  obtain ⟨x, hx⟩ : ∃ x, l[k / 2]? = some x := ⟨l[k / 2]'(by omega), List.getElem?_eq_getElem _⟩
  have h1 := endsS_some hx
  rcases Nat.mod_two_eq_zero_or_one k with hm | hm
  · have hq : (k + 1) / 2 = k / 2 := by omega
    have h2 := endsS_some (e := k + 1) (hq ▸ hx)
    rw [if_pos hm] at h1
    rw [if_neg (by omega)] at h2
    refine ⟨_, _, k + 1, h1, h2, ?_, ?_, hq⟩
    · unfold backS; rw [if_neg (by omega), if_pos (by omega)]; omega
    · unfold backS; rw [if_neg (by omega), if_neg (by omega)]; omega
  · obtain ⟨j, rfl⟩ : ∃ j, k = j + 1 := ⟨k - 1, by omega⟩
    have hq : j / 2 = (j + 1) / 2 := by omega
    have h2 := endsS_some (e := j) (by rw [hq]; exact hx)
    rw [if_neg (by omega)] at h1
    rw [if_pos (by omega)] at h2
    refine ⟨_, _, j, h1, h2, ?_, ?_, hq⟩
    · unfold backS; rw [if_neg (by omega), if_neg (by omega)]; omega
    · unfold backS; rw [if_neg (by omega), if_pos (by omega)]; omega
theorem mem_outS {l : List Lnk} {node : Int} {m : Nat} {x : Int} : x ∈ outS l node m ↔ ∃ i : Nat, i < m ∧ x = (i : Int) ∧ (endsS l (i : Int)).1 = node := by
  unfold outS
  simp only [List.mem_filter, List.mem_map, List.mem_range, beq_iff_eq]
  constructor
  · rintro ⟨⟨i, hi, rfl⟩, h⟩; exact ⟨i, hi, rfl, h⟩
  · rintro ⟨i, hi, rfl, h⟩; exact ⟨⟨i, hi, rfl⟩, h⟩
theorem mem_take_succ {L : List Int} {j : Nat} {x k : Int} (h : L[j]? = some x) : k ∈ L.take (j + 1) ↔ k ∈ L.take j ∨ x = k := by
  obtain ⟨hj, hx⟩ := List.getElem?_eq_some_iff.1 h
  rw [List.take_succ_eq_append_getElem hj, List.mem_append, hx]
  simp [eq_comm]
theorem not_mem_step {p q r : Prop} (h : p ↔ q ∨ r) (hq : false = true ↔ q) (hr : ¬r) : false = true ↔ p := by
  rw [h]
  constructor
  · intro h; cases h
  · rintro (h | h)
    · exact hq.2 h
    · exact absurd h hr
theorem size_alloc_eq (w : World) (o : Obj) : (w.alloc o).heap.size = w.heap.size + 1 := by simp
theorem int_row (x : Int) : #[Value.int .i64 x] = (icells [x]).toArray := rfl
theorem RInt.on {a b : World} {A : Option Addr} {n : Nat} {l : List Int} (h : RInt a a.heap.size A n l) (hb : Below a.heap.size a b) : RInt b b.heap.size A n l := (h.below hb).more hb.size
theorem own_shape {w : World} {base e size n : Nat} {v : Value} {xs : List Value} (h : w.ownsRow base e size v n xs) : ∃ A c, v = .slice A n c := by
  rcases h.2 with ⟨rfl, rfl⟩ | ⟨g, cap, cur, rfl, _⟩
  · exact ⟨_, _, rfl⟩
  · exact ⟨_, _, rfl⟩
theorem own_form {w : World} {base e size n : Nat} {v : Value} {xs : List Value} (h : w.ownsRow base e size v n xs) : ∃ A c, v = .slice A n c := by
  rcases h.2 with ⟨rfl, rfl⟩ | ⟨g, cap, cur, rfl, _⟩
  · exact ⟨_, _, rfl⟩
  · exact ⟨_, _, rfl⟩
theorem own_ri {w : World} {base m c : Nat} {A : Option Addr} {l : List Int} (h : w.ownsRow base 3 1 (.slice A m c) m (icells l)) (hl : l.length = m) : RInt w w.heap.size A m l := by
  obtain ⟨A', cap', hv, _, hr⟩ := own_ints h hl
  simp only [Value.slice.injEq] at hv
  obtain ⟨rfl, _, _⟩ := hv
  exact hr
def lcells (l : List Lnk) : List Value := l.flatMap fun x => [.int .i64 x.a, .int .i64 x.b, .int .i64 x.m, .int .i64 x.c]
theorem lcells_app (a b : List Lnk) : lcells (a ++ b) = lcells a ++ lcells b := List.flatMap_append
theorem lcells_one (l : List Lnk) : ∀ u ∈ lcells l, u.oneCell' = true := by
  intro u hu
  simp only [lcells, List.mem_flatMap] at hu
  obtain ⟨e, _, hu⟩ := hu
  simp at hu
  rcases hu with rfl | rfl | rfl | rfl <;> rfl
theorem lcells_at {l : List Lnk} {i : Nat} {e : Lnk} (h : l[i]? = some e) : (lcells l)[i * 4]? = some (.int .i64 e.a) ∧ (lcells l)[i * 4 + 1]? = some (.int .i64 e.b) ∧ (lcells l)[i * 4 + 2]? = some (.int .i64 e.m) ∧ (lcells l)[i * 4 + 3]? = some (.int .i64 e.c) := by
  induction l generalizing i with
  | nil => simp at h
  | cons a r ih =>
    simp only [lcells, List.flatMap_cons]
    cases i with
    | zero => simp at h; subst h; simp
    | succ i =>
      have := ih (i := i) (by simpa using h)
      rw [List.getElem?_append_right (by simp; omega), List.getElem?_append_right (by simp; omega), List.getElem?_append_right (by simp; omega), List.getElem?_append_right (by simp; omega)]
      have hl : [Value.int .i64 a.a, .int .i64 a.b, .int .i64 a.m, .int .i64 a.c].length = 4 := rfl
      rw [hl, show (i + 1) * 4 - 4 = i * 4 by omega, show (i + 1) * 4 + 1 - 4 = i * 4 + 1 by omega, show (i + 1) * 4 + 2 - 4 = i * 4 + 2 by omega, show (i + 1) * 4 + 3 - 4 = i * 4 + 3 by omega]
      exact this
theorem chk_rep {nd : Int} {x : Lnk} (h : lnkErr nd x = 0) (k i : Nat) : chk nd (List.replicate k x) i = (-1, 0) := by
  induction k generalizing i with
  | zero => rfl
  | succ k ih => rw [List.replicate_succ]; simp only [chk]; rw [if_pos h]; exact ih (i + 1)
theorem rep_len (k : Nat) (x : Lnk) : (List.replicate k x).length = k := List.length_replicate
theorem box_app {wr w4 : World} {B base e s n : Nat} {v : Value} {xs : List Value} {o X : Obj} (hbox : wr.heap[B]? = some X) (hB : B < base) (hown : wr.ownsRow base e s v n xs) (hg : (wr.alloc o).grownBy w4 v.ownBlock) : w4.heap[B]? = some X := by
  have hlt : B < wr.heap.size := by
    rcases Nat.lt_or_ge B wr.heap.size with h1 | h1
    · exact h1
    · rw [Array.getElem?_eq_none h1] at hbox; cases hbox
  refine (hg.block B (by simp; omega) (fun h => ?_)).trans (((Below.alloc (Below.refl wr.heap.size wr) (Nat.le_refl _) o).block B hlt).trans hbox)
  have := (hown.lt B h.symm).1
  omega
theorem below_app {w1 wr w4 : World} {base e s n : Nat} {v : Value} {xs : List Value} {o : Obj} (h : Below w1.heap.size w1 wr) (hb : w1.heap.size ≤ base) (hown : wr.ownsRow base e s v n xs) (hg : (wr.alloc o).grownBy w4 v.ownBlock) : Below w1.heap.size w1 w4 :=
  Below.grown (h.alloc h.size o) hg (by have := h.size; simp; omega) (fun q hq => Nat.le_trans hb (hown.lt q hq).1)
/-- Block G is a row of N bools: H. -/
def BRow (w : World) (G N : Nat) (H : Nat → Bool) : Prop := ∃ cs : Array Value, w.heap[G]? = some (.cells cs 4 (0, 0)) ∧ cs.size = N ∧ ∀ e, e < N → cs[e]? = some (.bool (H e))
theorem BRow.lt {w : World} {G N : Nat} {H : Nat → Bool} (h : BRow w G N H) : G < w.heap.size := by
  obtain ⟨cs, hb, _⟩ := h
  rcases Nat.lt_or_ge G w.heap.size with h1 | h1
  · exact h1
  · rw [Array.getElem?_eq_none h1] at hb; cases hb
theorem BRow.cell {w : World} {G N e : Nat} {H : Nat → Bool} (h : BRow w G N H) (he : e < N) : w.cell? ⟨G, e, none⟩ = some (.bool (H e)) := by
  obtain ⟨cs, hb, _, hc⟩ := h
  rw [cell_of_row _ _ _ _ _ _ hb]
  exact hc e he
theorem BRow.frozen {w : World} {G N : Nat} {H : Nat → Bool} (h : BRow w G N H) (e : Nat) : w.frozen? ⟨G, e, none⟩ = false := by
  obtain ⟨cs, hb, _⟩ := h
  exact frozen_of_row _ _ _ _ _ hb
theorem BRow.below {w w' : World} {G N k : Nat} {H : Nat → Bool} (h : BRow w G N H) (hb : Below k w w') (hk : G < k) : BRow w' G N H := by
  obtain ⟨cs, h1, h2⟩ := h
  exact ⟨cs, box_below h1 hb hk, h2⟩
theorem BRow.on {w w' : World} {G N : Nat} {H : Nat → Bool} (h : BRow w G N H) (hb : Below w.heap.size w w') : BRow w' G N H := h.below hb h.lt
theorem BRow.congr {w : World} {G N : Nat} {H H' : Nat → Bool} (h : BRow w G N H) (he : ∀ e, e < N → H' e = H e) : BRow w G N H' := by
  obtain ⟨cs, h1, h2, h3⟩ := h
  exact ⟨cs, h1, h2, fun e hl => by rw [h3 e hl, he e hl]⟩
theorem BRow.set {w : World} {G N e : Nat} {H : Nat → Bool} (h : BRow w G N H) (b : Bool) : BRow (w.setCell ⟨G, e, none⟩ (.bool b)) G N (fun j => if j = e then b else H j) := by
  obtain ⟨cs, h1, h2, h3⟩ := h
  refine ⟨_, heap_setCell_same w G e cs _ _ h1, by simpa using h2, fun j hj => ?_⟩
  rw [Array.getElem?_setIfInBounds]
  by_cases hje : e = j
  · subst hje; simp [h2, hj]
  · rw [if_neg hje, h3 j hj]
    show some (Value.bool (H j)) = some (Value.bool (if j = e then b else H j))
    rw [if_neg (fun h => hje h.symm)]
theorem BRow.drewN {w : World} {G N : Nat} {H : Nat → Bool} (h : BRow w G N H) (k : Nat) : BRow (w.drewN k) G N H := h
theorem BRow.made {w : World} {base G N : Nat} (h : w.ownsRow base 4 1 (.slice (some ⟨G, 0, none⟩) N N) N (madeCells (Value.bool false).cells (N * 1)).toList) : BRow w G N (fun _ => false) := by
  rcases h.2 with ⟨h1, _⟩ | ⟨g, cap, cur, h1, _, hg, _, _, h4, h5⟩
  · cases h1
  · simp only [Value.slice.injEq, Option.some.injEq, Addr.mk.injEq] at h1
    obtain ⟨⟨rfl, _⟩, _, rfl⟩ := h1
    refine ⟨cur, hg, by omega, fun e he => ?_⟩
    have h6 : cur.toList = List.replicate N (Value.bool false) := by
      rw [List.take_of_length_le (by simp; omega)] at h5
      rw [h5, Nat.mul_one, show (Value.bool false).cells = #[Value.bool false] from rfl, toList_madeCells_one]
    rw [← Array.getElem?_toList, h6]
    simp [he]
/-- Where an edge begins. -/
def frm (l : List Lnk) (e : Nat) : Int := (endsS l (e : Int)).1
/-- How many of the first N edges begin at a node below i. -/
def cntB (l : List Lnk) (i : Int) : Nat → Nat
  | 0 => 0
  | N + 1 => cntB l i N + if frm l N < i then 1 else 0
theorem cntB_succ (l : List Lnk) (i : Int) (N : Nat) : cntB l (i + 1) N = cntB l i N + (outS l i N).length := by
  induction N with
  | zero => rfl
  | succ N ih =>
    rw [outS_succ, List.length_append]
    simp only [cntB, ih]
    have hf : (endsS l (N : Int)).1 = frm l N := rfl
    rw [hf]
    rcases (show frm l N < i ∨ frm l N = i ∨ i < frm l N by omega) with h | h | h
    · rw [if_pos (by omega), if_pos h, if_neg (by omega)]; simp; omega
    · rw [if_pos (by omega), if_neg (by omega), if_pos h]; simp; omega
    · rw [if_neg (by omega), if_neg (by omega), if_neg (by omega)]; simp
theorem cntB_le (l : List Lnk) (i : Int) (N : Nat) : cntB l i N ≤ N := by
  induction N with
  | zero => exact Nat.le_refl _
  | succ N ih => simp only [cntB]; split <;> omega
theorem cntB_zero {l : List Lnk} {i : Int} {N : Nat} (h : ∀ e, e < N → i ≤ frm l e) : cntB l i N = 0 := by
  induction N with
  | zero => rfl
  | succ N ih => simp only [cntB]; rw [ih (fun e he => h e (by omega)), if_neg (by have := h N (by omega); omega)]
theorem cntB_all {l : List Lnk} {i : Int} {N : Nat} (h : ∀ e, e < N → frm l e < i) : cntB l i N = N := by
  induction N with
  | zero => rfl
  | succ N ih => simp only [cntB]; rw [ih (fun e he => h e (by omega)), if_pos (h N (by omega))]
theorem outS_none {l : List Lnk} {i : Int} {N : Nat} (h : ∀ e, e < N → frm l e ≠ i) : outS l i N = [] := by
  rcases List.eq_nil_or_concat (outS l i N) with h0 | ⟨r, x, h0⟩
  · exact h0
  · have : x ∈ outS l i N := by rw [h0]; simp
    obtain ⟨e, he, _, hf⟩ := mem_outS.1 this
    exact absurd hf (h e he)
theorem outS_sorted (l : List Lnk) (i : Int) (N : Nat) : (outS l i N).Pairwise (· < ·) := by
  unfold outS
  refine List.Pairwise.filter _ ?_
  exact List.pairwise_map.2 (List.Pairwise.imp (fun {a b} h => by omega) List.pairwise_lt_range)
theorem sorted_at {L : List Int} (h : L.Pairwise (· < ·)) {i j : Nat} {x y : Int} (hi : L[i]? = some x) (hj : L[j]? = some y) (hij : i < j) : x < y := by
  obtain ⟨h1, rfl⟩ := List.getElem?_eq_some_iff.1 hi
  obtain ⟨h2, rfl⟩ := List.getElem?_eq_some_iff.1 hj
  exact List.pairwise_iff_getElem.1 h i j h1 h2 hij
theorem sorted_not_before {L : List Int} (h : L.Pairwise (· < ·)) {k : Nat} {x : Int} (hk : L[k]? = some x) : x ∉ L.take k := by
  intro hm
  obtain ⟨j, hj, hx⟩ := List.getElem_of_mem hm
  rw [List.length_take] at hj
  have h1 : L[j]? = some x := by
    rw [List.getElem_take] at hx
    rw [List.getElem?_eq_getElem (by omega), hx]
  have := sorted_at h h1 hk (by omega)
  omega
theorem chk_all {nd : Int} {l : List Lnk} {i : Nat} (h : (chk nd l i).2 = 0) : ∀ x ∈ l, lnkErr nd x = 0 := by
  induction l generalizing i with
  | nil => intro x hx; cases hx
  | cons a r ih =>
    simp only [chk] at h
    split at h
    · intro x hx
      rcases List.mem_cons.1 hx with rfl | hx
      · assumption
      · exact ih h x hx
    · exact absurd h ‹_›
theorem frm_range {nd : Int} {l : List Lnk} (h : (chk nd l 0).2 = 0) {e : Nat} (he : e < 2 * l.length) : 0 ≤ frm l e ∧ frm l e < nd := by
  obtain ⟨x, hx⟩ : ∃ x, l[e / 2]? = some x := ⟨l[e / 2]'(by omega), List.getElem?_eq_getElem _⟩
  have h1 := chk_all h x (List.mem_of_getElem? hx)
  have h2 := endsS_some hx
  unfold lnkErr at h1
  split at h1
  · rename_i h3
    unfold frm
    rw [h2]
    split
    · exact ⟨h3.1, h3.2.1⟩
    · exact ⟨h3.2.2.1, h3.2.2.2.1⟩
  · cases h1
/-- What the next edge of a node's row is. -/
theorem row_next {l : List Lnk} {i : Int} {N k : Nat} {x : Int} (h : (outS l i N)[k]? = some x) : ∃ e : Nat, x = (e : Int) ∧ e < N ∧ frm l e = i ∧ (e : Int) ∉ (outS l i N).take k := by
  obtain ⟨e, he, rfl, hf⟩ := mem_outS.1 (List.mem_of_getElem? h)
  exact ⟨e, rfl, he, hf, sorted_not_before (outS_sorted l i N) h⟩
/-- What is marked: the edges of the nodes below i, and the first k of node i. -/
def marks (l : List Lnk) (i : Int) (N k : Nat) (e : Nat) : Bool := decide (frm l e < i) || decide ((e : Int) ∈ (outS l i N).take k)
theorem marks_new {l : List Lnk} {i : Int} {N k e : Nat} (hf : frm l e = i) (hm : (e : Int) ∉ (outS l i N).take k) : marks l i N k e = false := by
  simp [marks, hf, hm]
theorem marks_step {l : List Lnk} {i : Int} {N k e : Nat} (h : (outS l i N)[k]? = some (e : Int)) (j : Nat) : marks l i N (k + 1) j = if j = e then true else marks l i N k j := by
  unfold marks
  have h1 := mem_take_succ (k := (j : Int)) h
  by_cases hj : j = e
  · subst hj
    rw [if_pos rfl, decide_eq_true (h1.2 (.inr rfl))]; simp
  · rw [if_neg hj]
    congr 1
    rw [decide_eq_decide, h1]
    exact ⟨fun h => h.elim id (fun h => absurd h (by omega)), .inl⟩
theorem marks_end {l : List Lnk} {i : Int} {N m j : Nat} (hm : (outS l i N).length = m) (hj : j < N) : marks l (i + 1) N 0 j = marks l i N m j := by
  unfold marks
  rw [List.take_zero, List.take_of_length_le (show (outS l i N).length ≤ m by omega)]
  by_cases h : frm l j = i
  · rw [decide_eq_true (by omega), decide_eq_true (mem_outS.2 ⟨j, hj, rfl, h⟩)]; simp
  · have hn : (j : Int) ∉ outS l i N := by
      intro hmem
      obtain ⟨e, _, he, hf⟩ := mem_outS.1 hmem
      have : e = j := by omega
      subst this
      exact h hf
    rw [decide_eq_false hn]
    simp
    omega
theorem marks_zero {l : List Lnk} {N j : Nat} (h : 0 ≤ frm l j) : marks l 0 N 0 j = false := by
  simp [marks]; omega
/-- What Out answers. -/
def OutAns (l : List Lnk) (node : Int) (w : World) (e : Ending) (w' : World) : Prop :=
  ∃ v, e = .returned v ∧ w'.ownsRow w.heap.size 3 1 v (outS l node (2 * l.length)).length (icells (outS l node (2 * l.length))) ∧ Below w.heap.size w w'
def isDn (dn : List Bool) (i : Nat) : Bool := dn.getD i false
def tov (l : List Lnk) (k : Nat) : Int := (endsS l (k : Int)).2.1
def met (l : List Lnk) (k : Nat) : Int := (l.getD (k / 2) default).m
def dAt (d : List Int) (v : Int) : Int := d.getD v.toNat (-1)
/-- A graph as Check wants it. -/
def GOk (nd : Nat) (l : List Lnk) : Prop := l.length ≤ 120 ∧ 1 ≤ nd ∧ nd ≤ 40 ∧ (chk (nd : Int) l 0).2 = 0
theorem edge_facts {nd : Nat} {l : List Lnk} (h : GOk nd l) {k : Nat} (hk : k < 2 * l.length) : ∃ (a b : Nat) (x : Lnk), l[k / 2]? = some x ∧ endsS l (k : Int) = ((a : Int), (b : Int), true) ∧ frm l k = (a : Int) ∧ tov l k = (b : Int) ∧ met l k = x.m ∧ a < nd ∧ b < nd ∧ a ≠ b ∧ 1 ≤ x.m ∧ x.m ≤ 16777216 := by
  obtain ⟨x, hx⟩ : ∃ x, l[k / 2]? = some x := ⟨l[k / 2]'(by omega), List.getElem?_eq_getElem _⟩
  have h1 := chk_all h.2.2.2 x (List.mem_of_getElem? hx)
  have h2 := endsS_some hx
  have hm : met l k = x.m := by unfold met; rw [List.getD_eq_getElem?_getD, hx]; rfl
  unfold lnkErr at h1
  split at h1
  · rename_i h3
    obtain ⟨ha, ha', hb, hb', hab⟩ := h3
    split at h1
    · rename_i h4
      obtain ⟨a, ha2⟩ := Int.eq_ofNat_of_zero_le ha
      obtain ⟨b, hb2⟩ := Int.eq_ofNat_of_zero_le hb
      unfold frm tov
      rw [h2]
      rcases Nat.mod_two_eq_zero_or_one k with hk2 | hk2
      · rw [if_pos hk2]
        exact ⟨a, b, x, hx, by rw [ha2, hb2], ha2, hb2, hm, by omega, by omega, by omega, h4.1, h4.2.1⟩
      · rw [if_neg (by omega)]
        exact ⟨b, a, x, hx, by rw [ha2, hb2], hb2, ha2, hm, by omega, by omega, by omega, h4.1, h4.2.1⟩
    · cases h1
  · cases h1
/-- What P701 asks of a row of distances from s. -/
structure DistOk (nd : Nat) (l : List Lnk) (dn : List Bool) (s : Nat) (d : List Int) : Prop where
  len : d.length = nd
  src : dAt d (s : Int) = 0
  low : ∀ v : Nat, v < nd → -1 ≤ dAt d (v : Int)
  clo : ∀ k, k < 2 * l.length → isDn dn (k / 2) = false → 0 ≤ dAt d (frm l k) → 0 ≤ dAt d (tov l k) ∧ dAt d (tov l k) ≤ dAt d (frm l k) + met l k
  via : ∀ v : Nat, v < nd → v ≠ s → 0 ≤ dAt d (v : Int) → ∃ k, k < 2 * l.length ∧ isDn dn (k / 2) = false ∧ tov l k = (v : Int) ∧ 0 ≤ dAt d (frm l k) ∧ dAt d (v : Int) = dAt d (frm l k) + met l k
theorem dist_le {nd : Nat} {l : List Lnk} {dn : List Bool} {s : Nat} {d d' : List Int} (hg : GOk nd l) (h : DistOk nd l dn s d) (h' : DistOk nd l dn s d') :
    ∀ (N : Nat) (v : Nat), v < nd → 0 ≤ dAt d (v : Int) → dAt d (v : Int) ≤ (N : Int) → 0 ≤ dAt d' (v : Int) ∧ dAt d' (v : Int) ≤ dAt d (v : Int) := by
  intro N
  induction N with
  | zero =>
    intro v hv h0 h1
    by_cases hs : v = s
    · subst hs; rw [h'.src]; omega
    · obtain ⟨k, hk, _, ht, hf, he⟩ := h.via v hv hs h0
      obtain ⟨a, b, x, _, _, hfa, _, hm, _, _, _, hm1, _⟩ := edge_facts hg hk
      omega
  | succ N ih =>
    intro v hv h0 h1
    by_cases hs : v = s
    · subst hs; rw [h'.src]; omega
    · obtain ⟨k, hk, hu, ht, hf, he⟩ := h.via v hv hs h0
      obtain ⟨a, b, x, _, _, hfa, _, hm, ha, _, _, hm1, _⟩ := edge_facts hg hk
      rw [hfa] at hf he
      obtain ⟨i1, i2⟩ := ih a ha hf (by omega)
      have := h'.clo k hk hu (by rw [hfa]; exact i1)
      rw [ht, hfa] at this
      omega
theorem dist_unique {nd : Nat} {l : List Lnk} {dn : List Bool} {s : Nat} {d d' : List Int} (hg : GOk nd l) (h : DistOk nd l dn s d) (h' : DistOk nd l dn s d') : d = d' := by
  refine List.ext_getElem (by rw [h.len, h'.len]) fun i h1 h2 => ?_
  have hi : i < nd := by rw [← h.len]; exact h1
  have e1 : dAt d (i : Int) = d[i] := by unfold dAt; rw [List.getD_eq_getElem?_getD, Int.toNat_natCast, List.getElem?_eq_getElem h1]; rfl
  have e2 : dAt d' (i : Int) = d'[i] := by unfold dAt; rw [List.getD_eq_getElem?_getD, Int.toNat_natCast, List.getElem?_eq_getElem h2]; rfl
  rw [← e1, ← e2]
  have l1 := h.low i hi
  have l2 := h'.low i hi
  by_cases c1 : 0 ≤ dAt d (i : Int)
  · have a := dist_le hg h h' (dAt d (i : Int)).toNat i hi c1 (by omega)
    have b := dist_le hg h' h (dAt d' (i : Int)).toNat i hi a.1 (by omega)
    omega
  · by_cases c2 : 0 ≤ dAt d' (i : Int)
    · have b := dist_le hg h' h (dAt d' (i : Int)).toNat i hi c2 (by omega)
      omega
    · omega
/-- The row of distances, if there is one. -/
noncomputable def distS (nd : Nat) (l : List Lnk) (dn : List Bool) (s : Nat) : List Int := open Classical in if h : ∃ d, DistOk nd l dn s d then Classical.choose h else []
theorem distS_eq {nd : Nat} {l : List Lnk} {dn : List Bool} {s : Nat} {d : List Int} (hg : GOk nd l) (h : DistOk nd l dn s d) : distS nd l dn s = d := by
  have he : ∃ d, DistOk nd l dn s d := ⟨d, h⟩
  unfold distS
  rw [dif_pos he]
  exact dist_unique hg (Classical.choose_spec he) h
/-- What From and To answer. -/
noncomputable def fromS (nd : Int) (l : List Lnk) (dn : List Bool) (s : Int) : List Int := if (checkS nd l).2 = 0 ∧ 0 ≤ s ∧ s < nd then distS nd.toNat l dn s.toNat else []
theorem gok_of {nd : Nat} {l : List Lnk} (h : (checkS (nd : Int) l).2 = 0) : GOk nd l := by
  obtain ⟨h1, h2, h3, h4⟩ := checkS_ok h
  exact ⟨h1, by omega, by omega, h4⟩

/-! ### Edge by edge -/
def lab : List Int → Nat
  | [] => 0
  | x :: r => lab r + if x < 0 then 0 else 1
def pot (x : Int) : Nat := if x < 0 then 687865856 else x.toNat
def sumP : List Int → Nat
  | [] => 0
  | x :: r => sumP r + pot x
theorem lab_le (d : List Int) : lab d ≤ d.length := by
  induction d with
  | nil => exact Nat.le_refl _
  | cons x r ih => simp only [lab, List.length_cons]; split <;> omega
theorem lab_set {d : List Int} {i : Nat} {x y : Int} (h : d[i]? = some y) (hx : 0 ≤ x) : lab (d.set i x) = lab d + if y < 0 then 1 else 0 := by
  induction d generalizing i with
  | nil => simp at h
  | cons a r ih =>
    cases i with
    | zero =>
      simp at h; subst h
      simp only [List.set_cons_zero, lab]
      rw [if_neg (show ¬x < 0 by omega)]
      split <;> omega
    | succ i =>
      simp only [List.set_cons_succ, lab]
      rw [ih (by simpa using h)]
      omega
theorem sumP_set {d : List Int} {i : Nat} {x y : Int} (h : d[i]? = some y) (hx : pot x < pot y) : sumP (d.set i x) < sumP d := by
  induction d generalizing i with
  | nil => simp at h
  | cons a r ih =>
    cases i with
    | zero => simp at h; subst h; simp only [List.set_cons_zero, sumP]; omega
    | succ i => simp only [List.set_cons_succ, sumP]; have := ih (i := i) (by simpa using h); omega
theorem lab_pos {d : List Int} {i : Nat} (h : d[i]? = some 0) : 1 ≤ lab d := by
  induction d generalizing i with
  | nil => simp at h
  | cons a r ih =>
    cases i with
    | zero => simp at h; subst h; simp [lab]
    | succ i => simp only [lab]; have := ih (i := i) (by simpa using h); omega
theorem dAt_get {d : List Int} {v : Nat} (h : v < d.length) : d[v]? = some (dAt d (v : Int)) := by
  unfold dAt
  rw [List.getD_eq_getElem?_getD, Int.toNat_natCast, List.getElem?_eq_getElem h]
  rfl
theorem dAt_set {d : List Int} {b v : Nat} {x : Int} (h : b < d.length) : dAt (d.set b x) (v : Int) = if v = b then x else dAt d (v : Int) := by
  unfold dAt
  rw [List.getD_eq_getElem?_getD, List.getD_eq_getElem?_getD, Int.toNat_natCast, List.getElem?_set]
  by_cases hv : b = v
  · subst hv; simp [h]
  · rw [if_neg hv, if_neg (fun e => hv e.symm)]
/-- What holds while edges are looked at. -/
structure PInv (nd : Nat) (l : List Lnk) (dn : List Bool) (s : Nat) (d : List Int) : Prop where
  len : d.length = nd
  src : dAt d (s : Int) = 0
  low : ∀ v : Nat, v < nd → -1 ≤ dAt d (v : Int)
  via : ∀ v : Nat, v < nd → v ≠ s → 0 ≤ dAt d (v : Int) → ∃ k, k < 2 * l.length ∧ isDn dn (k / 2) = false ∧ tov l k = (v : Int) ∧ 0 ≤ dAt d (frm l k) ∧ dAt d (frm l k) + met l k ≤ dAt d (v : Int)
  top : ∀ v : Nat, v < nd → dAt d (v : Int) + 16777216 ≤ (lab d : Int) * 16777216
def cloAt (l : List Lnk) (dn : List Bool) (d : List Int) (k : Nat) : Prop := isDn dn (k / 2) = false → 0 ≤ dAt d (frm l k) → 0 ≤ dAt d (tov l k) ∧ dAt d (tov l k) ≤ dAt d (frm l k) + met l k
theorem PInv.done {nd : Nat} {l : List Lnk} {dn : List Bool} {s : Nat} {d : List Int} (h : PInv nd l dn s d) (hc : ∀ k, k < 2 * l.length → cloAt l dn d k) : DistOk nd l dn s d := by
  refine ⟨h.len, h.src, h.low, hc, fun v hv hs h0 => ?_⟩
  obtain ⟨k, hk, hu, ht, hf, he⟩ := h.via v hv hs h0
  have := (hc k hk hu hf).2
  rw [ht] at this
  exact ⟨k, hk, hu, ht, hf, by omega⟩
theorem PInv.start {nd : Nat} {l : List Lnk} {dn : List Bool} {s : Nat} (hs : s < nd) : PInv nd l dn s ((List.replicate nd (-1 : Int)).set s 0) := by
  have hr : ∀ v : Nat, dAt (List.replicate nd (-1 : Int)) (v : Int) = -1 := by
    intro v
    unfold dAt
    rw [List.getD_eq_getElem?_getD, Int.toNat_natCast]
    rcases Nat.lt_or_ge v nd with h | h
    · rw [List.getElem?_replicate, if_pos h]; rfl
    · rw [List.getElem?_eq_none (by simpa using h)]; rfl
  have hd : ∀ v : Nat, dAt ((List.replicate nd (-1 : Int)).set s 0) (v : Int) = if v = s then 0 else -1 := by
    intro v
    rw [dAt_set (by simpa using hs), hr]
  have hl : lab ((List.replicate nd (-1 : Int)).set s 0) ≥ 1 := by
    refine lab_pos (i := s) ?_
    rw [List.getElem?_set, if_pos rfl, if_pos (by simpa using hs)]
  refine ⟨by simp, by rw [hd, if_pos rfl], fun v _ => by rw [hd]; split <;> omega, fun v _ hv h0 => ?_, fun v _ => ?_⟩
  · rw [hd, if_neg hv] at h0; omega
  · rw [hd]; split <;> omega
theorem PInv.bound {nd : Nat} {l : List Lnk} {dn : List Bool} {s : Nat} {d : List Int} (h : PInv nd l dn s d) (hnd : nd ≤ 40) {v : Nat} (hv : v < nd) : -1 ≤ dAt d (v : Int) ∧ dAt d (v : Int) ≤ 654311424 := by
  have h1 := h.low v hv
  have h2 := h.top v hv
  have h3 := lab_le d
  rw [h.len] at h3
  omega
/-- An edge that makes a node nearer. -/
theorem PInv.relax {nd : Nat} {l : List Lnk} {dn : List Bool} {s : Nat} {d : List Int} (hg : GOk nd l) (h : PInv nd l dn s d) {k a b : Nat} {m : Int} (hk : k < 2 * l.length) (hu : isDn dn (k / 2) = false) (hf : frm l k = (a : Int)) (ht : tov l k = (b : Int)) (hm : met l k = m)
    (ha : a < nd) (hb : b < nd) (hab : a ≠ b) (hm1 : 1 ≤ m) (hm2 : m ≤ 16777216) (h0 : 0 ≤ dAt d (a : Int)) (hn : dAt d (b : Int) < 0 ∨ dAt d (a : Int) + m < dAt d (b : Int)) :
    PInv nd l dn s (d.set b (dAt d (a : Int) + m)) ∧ sumP (d.set b (dAt d (a : Int) + m)) < sumP d := by
  have hbl : b < d.length := by rw [h.len]; exact hb
  have hs : b ≠ s := by rintro rfl; rw [h.src] at hn; omega
  have hv : ∀ v : Nat, dAt (d.set b (dAt d (a : Int) + m)) (v : Int) = if v = b then dAt d (a : Int) + m else dAt d (v : Int) := fun v => dAt_set hbl
  have htop := h.top a ha
  have hlow := h.low b hb
  have hlab := lab_set (x := dAt d (a : Int) + m) (dAt_get hbl) (by omega)
  have hle : ∀ v : Nat, v < nd → 0 ≤ dAt d (v : Int) → 0 ≤ dAt (d.set b (dAt d (a : Int) + m)) (v : Int) ∧ dAt (d.set b (dAt d (a : Int) + m)) (v : Int) ≤ dAt d (v : Int) := by
    intro v hv1 hv2
    rw [hv]
    split
    · subst v; omega
    · omega
  refine ⟨⟨by rw [List.length_set]; exact h.len, by rw [hv, if_neg (fun e => hs e.symm)]; exact h.src, fun v hv1 => by rw [hv]; split; omega; exact h.low v hv1, fun v hv1 hvs hv0 => ?_, fun v hv1 => ?_⟩, ?_⟩
  · by_cases hvb : v = b
    · subst hvb
      refine ⟨k, hk, hu, ht, ?_, ?_⟩
      · rw [hf, hv, if_neg hab]; exact h0
      · rw [hf, hv, if_neg hab, hv, if_pos rfl, hm]; omega
    · rw [hv, if_neg hvb] at hv0 ⊢
      obtain ⟨k', hk', hu', ht', hf', he'⟩ := h.via v hv1 hvs hv0
      obtain ⟨a', _, _, _, _, hfa', _, _, ha', _⟩ := edge_facts hg hk'
      rw [hfa'] at hf' he'
      have := hle a' ha' hf'
      refine ⟨k', hk', hu', ht', ?_, ?_⟩
      · rw [hfa']; exact this.1
      · rw [hfa']; omega
  · rw [hlab, hv]
    have := h.top v hv1
    by_cases hvb : v = b
    · subst hvb
      rw [if_pos rfl]
      split <;> omega
    · rw [if_neg hvb]
      split <;> omega
  · refine sumP_set (dAt_get hbl) ?_
    have hb1 := (h.bound hg.2.2.1 ha).2
    unfold pot
    rw [if_neg (by omega)]
    split <;> omega
theorem cloAt_no {l : List Lnk} {dn : List Bool} {d : List Int} {k a b : Nat} {m : Int} (hf : frm l k = (a : Int)) (ht : tov l k = (b : Int)) (hm : met l k = m) (h : dAt d (a : Int) < 0 ∨ isDn dn (k / 2) = true ∨ (0 ≤ dAt d (b : Int) ∧ dAt d (b : Int) ≤ dAt d (a : Int) + m)) : cloAt l dn d k := by
  intro hu h0
  rw [hf] at h0
  rw [ht, hf, hm]
  rcases h with h | h | h
  · omega
  · rw [hu] at h; cases h
  · exact h
/-- A slice value reads as the bools l below block B. -/
def RBl (w : World) (B : Nat) (A : Option Addr) (n : Nat) (l : List Bool) : Prop :=
  l.length = n ∧ (0 < n → ∃ b off, A = some ⟨b, off, none⟩ ∧ b < B ∧ ∀ (i : Nat) (x : Bool), l[i]? = some x → w.cell? ⟨b, off + i, none⟩ = some (.bool x))
theorem RBl.below {w w' : World} {B n : Nat} {A : Option Addr} {l : List Bool} (h : RBl w B A n l) (hb : Below B w w') : RBl w' B A n l := by
  refine ⟨h.1, fun hn => ?_⟩
  obtain ⟨b, off, hA, hB, hc⟩ := h.2 hn
  exact ⟨b, off, hA, hB, fun i e he => (hb.cell (p := ⟨b, _, none⟩) hB).trans (hc i e he)⟩
theorem RBl.more {w : World} {B B' n : Nat} {A : Option Addr} {l : List Bool} (h : RBl w B A n l) (hB : B ≤ B') : RBl w B' A n l := by
  refine ⟨h.1, fun hn => ?_⟩
  obtain ⟨b, off, hA, hb, hc⟩ := h.2 hn
  exact ⟨b, off, hA, by omega, hc⟩
theorem RBl.on {a b : World} {A : Option Addr} {n : Nat} {l : List Bool} (h : RBl a a.heap.size A n l) (hb : Below a.heap.size a b) : RBl b b.heap.size A n l := (h.below hb).more hb.size
theorem open_nms {H : Type} {enc : TypeId × Value → H} {w : World} {A : Option Addr} {len cap : Nat} {d : DataW H} {p : List MemPlace}
    (h : DataW.Trod enc Tryz.prog w 0 (fun _ => true) true 38 (.slice A len cap) d p) : ∃ l : List Int, RInt w w.heap.size A len l ∧ (∀ x ∈ l, -9223372036854775808 ≤ x ∧ x ≤ 9223372036854775807) ∧ len ≤ maxLen ∧ (A = none → len = 0 ∧ cap = 0) ∧ len ≤ cap := by
  obtain ⟨fuel, hf⟩ := h
  rcases open_ints Tryz.underlying38 Tryz.underlying3 (by kernel_rfl) hf with ⟨hcs, _⟩ | ⟨a, len, c, zs, hcs, _, hl, hm, hz, _, hcell, hwz⟩
  · simp [Value.cells] at hcs
    obtain ⟨rfl, rfl, rfl⟩ := hcs
    exact ⟨[], ⟨rfl, fun h => by omega⟩, by simp, by unfold maxLen; omega, fun _ => ⟨rfl, rfl⟩, Nat.le_refl _⟩
  · simp [Value.cells] at hcs
    obtain ⟨rfl, rfl, rfl⟩ := hcs
    simp only [if_true] at hz
    have hw : ∀ x ∈ zs, -9223372036854775808 ≤ x ∧ x ≤ 9223372036854775807 := by
      intro x hx
      have hw := hwz x hx
      simp only [Lit.wf, Bool.and_eq_true, decide_eq_true_eq] at hw
      have h1 : IntKind.i64.min = -9223372036854775808 := rfl
      have h2 : IntKind.i64.max = 9223372036854775807 := rfl
      rw [h1, h2] at hw
      exact hw
    refine ⟨zs.take len, ⟨by rw [List.length_take]; omega, fun hn => ?_⟩, fun x hx => hw x (List.mem_of_mem_take hx), by omega, fun h => (by cases h), hl⟩
    have hsp : a.spot = none := by
      have := World.cell?_spot (hcell 0 (by omega))
      simpa [Addr.add] using this
    obtain ⟨b, off, spot⟩ := a
    subst hsp
    have hb := cell_lt (hcell 0 (by omega))
    rw [Go.WideShapes.add_plain] at hb
    refine ⟨b, off, rfl, hb, fun i x hx => ?_⟩
    rw [List.getElem?_take] at hx
    split at hx
    · have := hcell i (by have := (List.getElem?_eq_some_iff.1 hx).1; omega)
      rw [Go.WideShapes.add_plain] at this
      rw [this, List.getD_eq_getElem?_getD, hx]; rfl
    · cases hx
/-- Block G is the row d. -/
def IRow (w : World) (G : Nat) (d : List Int) : Prop := w.heap[G]? = some (.cells (icells d).toArray 3 (0, 0))
theorem IRow.lt {w : World} {G : Nat} {d : List Int} (h : IRow w G d) : G < w.heap.size := by
  rcases Nat.lt_or_ge G w.heap.size with h1 | h1
  · exact h1
  · have h2 : w.heap[G]? = _ := h
    rw [Array.getElem?_eq_none h1] at h2; cases h2
theorem IRow.cell {w : World} {G i : Nat} {x : Int} {d : List Int} (h : IRow w G d) (hx : d[i]? = some x) : w.cell? ⟨G, i, none⟩ = some (.int .i64 x) := by
  rw [cell_of_row _ _ _ _ _ _ h]
  simp [icells, hx]
theorem IRow.frozen {w : World} {G : Nat} {d : List Int} (h : IRow w G d) (i : Nat) : w.frozen? ⟨G, i, none⟩ = false := frozen_of_row _ _ _ _ _ h
theorem IRow.on {w w' : World} {G : Nat} {d : List Int} (h : IRow w G d) (hb : Below w.heap.size w w') : IRow w' G d := box_below h hb h.lt
theorem IRow.set {w : World} {G i : Nat} {d : List Int} (h : IRow w G d) (x : Int) : IRow (w.setCell ⟨G, i, none⟩ (.int .i64 x)) G (d.set i x) := by
  have h1 := heap_setCell_same w G i _ _ (.int .i64 x) h
  unfold IRow
  rw [h1]
  simp [icells, List.map_set]
theorem IRow.drewN {w : World} {G : Nat} {d : List Int} (h : IRow w G d) (k : Nat) : IRow (w.drewN k) G d := h
theorem IRow.made {w : World} {base G N : Nat} (h : w.ownsRow base 3 1 (.slice (some ⟨G, 0, none⟩) N N) N (madeCells (Value.int .i64 0).cells (N * 1)).toList) : IRow w G (List.replicate N 0) := by
  rcases h.2 with ⟨h1, _⟩ | ⟨g, cap, cur, h1, _, hg, _, _, h4, h5⟩
  · cases h1
  · simp only [Value.slice.injEq, Option.some.injEq, Addr.mk.injEq] at h1
    obtain ⟨⟨rfl, _⟩, _, rfl⟩ := h1
    have h6 : cur.toList = List.replicate N (Value.int .i64 0) := by
      rw [List.take_of_length_le (by simp; omega)] at h5
      rw [h5, Nat.mul_one, show (Value.int .i64 0).cells = #[Value.int .i64 0] from rfl, toList_madeCells_one]
    unfold IRow
    rw [hg]
    have h7 : cur = (icells (List.replicate N 0)).toArray := by
      rw [← Array.toArray_toList (xs := cur), h6]
      simp [icells]
    rw [h7]
theorem IRow.owned {w : World} {base G N : Nat} {d : List Int} (h : IRow w G d) (hl : d.length = N) (hb : base ≤ G) (hN : N ≤ maxLen) : w.ownsRow base 3 1 (.slice (some ⟨G, 0, none⟩) N N) N (icells d) := by
  refine ⟨by rw [icells_len, hl, Nat.mul_one], .inr ⟨G, N, _, rfl, hb, h, Nat.le_refl _, hN, by simp [icells, hl], ?_⟩⟩
  rw [List.take_of_length_le (by simp [icells, hl])]
/-- The potential of block G. -/
def potW (w : World) (G : Nat) : Nat := match w.heap[G]? with
  | some (.cells cs _ _) => sumP (cs.toList.map intOf)
  | _ => 0
theorem IRow.pot {w : World} {G : Nat} {d : List Int} (h : IRow w G d) : potW w G = sumP d := by
  have h' : w.heap[G]? = some (.cells (icells d).toArray 3 (0, 0)) := h
  unfold potW
  rw [h']
  simp only [icells, List.map_map]
  congr 1
  exact (List.map_congr_left (fun x _ => rfl)).trans (List.map_id _)
/-- What a want says. -/
structure Wnt where
  frm : Int
  too : Int
  bnd : Int
  via : List Int
  nds : List Int
  lks : List Int
  cls : List Int
/-- Where its lists lie. -/
structure WSl where
  av : Option Addr
  nv : Nat
  cv : Nat
  an : Option Addr
  nn : Nat
  cn : Nat
  al : Option Addr
  nl : Nat
  cl : Nat
  ac : Option Addr
  nc : Nat
  cc : Nat
/-- A list of numbers as a call gets it. -/
structure LArg (w : World) (A : Option Addr) (n c : Nat) (l : List Int) : Prop where
  row : RInt w w.heap.size A n l
  cap : n ≤ c
  non : A = none → n = 0 ∧ c = 0
  max : n ≤ maxLen
  rng : ∀ x ∈ l, -9223372036854775808 ≤ x ∧ x ≤ 9223372036854775807
theorem LArg.on {w w' : World} {A : Option Addr} {n c : Nat} {l : List Int} (h : LArg w A n c l) (hb : Below w.heap.size w w') : LArg w' A n c l := ⟨(h.row.below hb).more hb.size, h.cap, h.non, h.max, h.rng⟩
structure WArg (w : World) (x : Wnt) (y : WSl) : Prop where
  via : LArg w y.av y.nv y.cv x.via
  nds : LArg w y.an y.nn y.cn x.nds
  lks : LArg w y.al y.nl y.cl x.lks
  cls : LArg w y.ac y.nc y.cc x.cls
  rng : -9223372036854775808 ≤ x.bnd ∧ x.bnd ≤ 9223372036854775807
theorem WArg.on {w w' : World} {x : Wnt} {y : WSl} (h : WArg w x y) (hb : Below w.heap.size w w') : WArg w' x y := ⟨h.via.on hb, h.nds.on hb, h.lks.on hb, h.cls.on hb, h.rng⟩
theorem array7 {cs : Array Value} (h : cs.size = 7) : ∃ a b c d e f g, cs = #[a, b, c, d, e, f, g] := by
  obtain ⟨l⟩ := cs
  match l, h with
  | [a, b, c, d, e, f, g], _ => exact ⟨a, b, c, d, e, f, g, rfl⟩
theorem open_larg {H : Type} {enc : TypeId × Value → H} {w : World} {k : Nat} {v : Value} {y : DataW H × List MemPlace}
    (h : DataW.trod enc Tryz.prog w 0 (fun _ => true) true k 38 [v] = some y) : ∃ (A : Option Addr) (n c : Nat) (l : List Int), v = .slice A n c ∧ LArg w A n c l := by
  have key : ∀ (A : Option Addr) (n c : Nat), v = .slice A n c → ∃ (A : Option Addr) (n c : Nat) (l : List Int), v = .slice A n c ∧ LArg w A n c l := by
    intro A n c hv
    subst hv
    obtain ⟨l, h1, h2, h3, h4, h5⟩ := open_nms (d := y.1) (p := y.2) ⟨k, h⟩
    exact ⟨A, n, c, l, rfl, h1, h5, h4, h3, h2⟩
  rcases open_slice Tryz.underlying38 h with ⟨h0, _⟩ | ⟨a, len, cap, _, _, _, _, h0, _⟩
  · simp only [List.cons.injEq, and_true] at h0
    exact key _ _ _ h0
  · simp only [List.cons.injEq, and_true] at h0
    exact key _ _ _ h0
section
variable {H : Type} {enc : TypeId × Value → H} {P : Program} {w : World} {base : Nat} {spare : Nat → Bool} {held : Bool}
theorem open_agg7 {r : Reach} {b0 : Nat} {t : TypeId} {f0 f1 f2 f3 f4 f5 f6 : Field} {v : Value} {d : DataW H} {p : List MemPlace} (hs : P.underlying t = some (.struct #[f0, f1, f2, f3, f4, f5, f6])) (hone : oneCellFields P #[f0, f1, f2, f3, f4, f5, f6] = true) (hC : P.cellsOf t = 7)
    (hv : Value.okWide P w r b0 t v) (h : DataW.Trod enc P w base spare held t v d p) :
    ∃ (v0 v1 v2 v3 v4 v5 v6 : Value) (n : Nat), v = .agg #[v0, v1, v2, v3, v4, v5, v6] ∧
      (∃ y, DataW.trod enc P w base spare held n f0.type [v0] = some y) ∧ (∃ y, DataW.trod enc P w base spare held n f1.type [v1] = some y) ∧ (∃ y, DataW.trod enc P w base spare held n f2.type [v2] = some y) ∧
      (∃ y, DataW.trod enc P w base spare held n f3.type [v3] = some y) ∧ (∃ y, DataW.trod enc P w base spare held n f4.type [v4] = some y) ∧ (∃ y, DataW.trod enc P w base spare held n f5.type [v5] = some y) ∧ (∃ y, DataW.trod enc P w base spare held n f6.type [v6] = some y) := by
  obtain ⟨cs, rfl, hsz⟩ := okWide_struct hs hv
  obtain ⟨c0, c1, c2, c3, c4, c5, c6, rfl⟩ := array7 (hsz.trans hC)
  obtain ⟨fuel, hf⟩ := h
  obtain ⟨xs, n, _, _, _, hxl, hx⟩ := DataW.trod_struct hs hf
  have hxl' : xs.length = 7 := hxl
  have g : ∀ (j : Nat) (f : Field), (#[f0, f1, f2, f3, f4, f5, f6] : Array Field)[j]? = some f → j < 7 → ∃ y, DataW.trod enc P w base spare held n f.type ((([c0, c1, c2, c3, c4, c5, c6] : List Value).drop j).take 1) = some y := by
    intro j f hj hj7
    obtain ⟨o, k⟩ := hone_of hone j f hj
    have h1 := hx j f hj
    rw [o, k] at h1
    exact ⟨xs[j]'(by omega), h1.trans (List.getElem?_eq_getElem (by omega))⟩
  exact ⟨c0, c1, c2, c3, c4, c5, c6, n, rfl, g 0 f0 rfl (by omega), g 1 f1 rfl (by omega), g 2 f2 rfl (by omega), g 3 f3 rfl (by omega), g 4 f4 rfl (by omega), g 5 f5 rfl (by omega), g 6 f6 rfl (by omega)⟩
end
theorem open_want {H : Type} {enc : TypeId × Value → H} {w : World} {r : Reach} {b0 : Nat} {v : Value} {d : DataW H} {p : List MemPlace} (hv : Value.okWide Tryz.prog w r b0 40 v)
    (h : DataW.Trod enc Tryz.prog w 0 (fun _ => true) true 40 v d p) : ∃ (x : Wnt) (y : WSl), v = .agg #[.int .i64 x.frm, .int .i64 x.too, .int .i64 x.bnd, .slice y.av y.nv y.cv, .slice y.an y.nn y.cn, .slice y.al y.nl y.cl, .slice y.ac y.nc y.cc] ∧ WArg w x y := by
  obtain ⟨v0, v1, v2, v3, v4, v5, v6, n, rfl, ⟨y0, g0⟩, ⟨y1, g1⟩, ⟨y2, g2⟩, ⟨y3, g3⟩, ⟨y4, g4⟩, ⟨y5, g5⟩, ⟨y6, g6⟩⟩ := open_agg7 Tryz.underlying40 (by kernel_rfl) (by kernel_rfl) hv h
  obtain ⟨a, e0, _, _⟩ := DataW.trod_int Tryz.underlying3 g0
  obtain ⟨b, e1, _, _⟩ := DataW.trod_int Tryz.underlying3 g1
  obtain ⟨c, e2, _, hc⟩ := DataW.trod_int Tryz.underlying3 g2
  obtain ⟨A3, n3, c3, l3, rfl, h3⟩ := open_larg g3
  obtain ⟨A4, n4, c4, l4, rfl, h4⟩ := open_larg g4
  obtain ⟨A5, n5, c5, l5, rfl, h5⟩ := open_larg g5
  obtain ⟨A6, n6, c6, l6, rfl, h6⟩ := open_larg g6
  simp only [List.cons.injEq, and_true] at e0 e1 e2
  subst e0 e1 e2
  exact ⟨⟨a, b, c, l3, l4, l5, l6⟩, ⟨A3, n3, c3, A4, n4, c4, A5, n5, c5, A6, n6, c6⟩, rfl, h3, h4, h5, h6, wf_i64 hc⟩
end Go.Proofs.YtcmkcloapenpnaaGreatDoor
