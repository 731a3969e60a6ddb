/- Cut out of PfC PfD PfE PlB PlC PlD PlE PlF PlG PlH PlI PlJ. -/
import Derived.Test.YthoblabimkfjpaaPlA
import Derived.Test.YthoblabimkfjpaaWoC
import Derived.Test.YthoblabimkfjpaaWgC
import Derived.Test.YthoblabimkfjpaaWgB
import Derived.Test.YthoblabimkfjpaaPfB
import Derived.Test.YthoblabimkfjpaaWdO
import Derived.Test.YthoblabimkfjpaaWdT
import Derived.Deep.CutRange
import Derived.Deep.DeepCutAuto
import Derived.Deep.RegionLaw
import Derived.Deep.RegionWith
import Derived.Deep.WholeRow
import Derived.Laws.ResultCell
import Derived.Laws.Rows
import Derived.OwnWalk
import Derived.StillTailTactics
namespace Go.Proofs.Ythoblabimkfjpaa
open Go.RowKit
set_option maxHeartbeats 6400000
set_option maxRecDepth 100000
/-- All blocks but one stay. -/
structure But (B : Nat) (w w' : World) : Prop where
  os : w'.os = w.os
  tape : w'.tape = w.tape
  output : w'.output = w.output
  size : w.heap.size ≤ w'.heap.size
  block : ∀ g, g < w.heap.size → g ≠ B → w'.heap[g]? = w.heap[g]?
theorem But.refl (B : Nat) (w : World) : But B w w := ⟨rfl, rfl, rfl, Nat.le_refl _, fun _ _ _ => rfl⟩
theorem But.trans {B : Nat} {a b c : World} (h : But B a b) (h' : But B b c) : But B a c :=
  ⟨h'.os.trans h.os, h'.tape.trans h.tape, h'.output.trans h.output, Nat.le_trans h.size h'.size, fun g hg h1 => (h'.block g (Nat.lt_of_lt_of_le hg h.size) h1).trans (h.block g hg h1)⟩
theorem pst_lt {w : World} {B : Nat} {o : Obj} (h : w.heap[B]? = some o) : B < w.heap.size := by
  rcases Nat.lt_or_ge B w.heap.size with h1 | h1
  · exact h1
  · rw [Array.getElem?_eq_none h1] at h; cases h
/-- All blocks but two stay. -/
structure But2 (B C : Nat) (w w' : World) : Prop where
  os : w'.os = w.os
  tape : w'.tape = w.tape
  output : w'.output = w.output
  size : w.heap.size ≤ w'.heap.size
  block : ∀ g, g < w.heap.size → g ≠ B → g ≠ C → w'.heap[g]? = w.heap[g]?
theorem But2.refl (B C : Nat) (w : World) : But2 B C w w := ⟨rfl, rfl, rfl, Nat.le_refl _, fun _ _ _ _ => rfl⟩
theorem But2.trans {B C : Nat} {a b c : World} (h : But2 B C a b) (h' : But2 B C b c) : But2 B C a c :=
  ⟨h'.os.trans h.os, h'.tape.trans h.tape, h'.output.trans h.output, Nat.le_trans h.size h'.size, fun g hg h1 h2 => (h'.block g (Nat.lt_of_lt_of_le hg h.size) h1 h2).trans (h.block g hg h1 h2)⟩
/-- A rule's cells. -/
def rarr (r : Rul) (y : WSl) : Array Value := #[.string (txt r.name), .int .i64 r.pri, .int .u32 (r.m.sa : Int), .int .i64 r.m.sl, .int .u32 (r.m.da : Int), .int .i64 r.m.dl, .int .i64 r.m.pr, .int .i64 r.m.sp, .int .i64 r.m.dp,
  .int .i64 r.x.frm, .int .i64 r.x.too, .int .i64 r.x.bnd, .slice y.av y.nv y.cv, .slice y.an y.nn y.cn, .slice y.al y.nl y.cl, .slice y.ac y.nc y.cc, .bool r.strict]
def RBox (BR : Nat) (r : Rul) (y : WSl) (w : World) : Prop := w.heap[BR]? = some (.cells (rarr r y) 58 (0, 0))
/-- The lists of a rule are a call's own. -/
structure ROwn (w : World) (x : Wnt) (y : WSl) : Prop where
  via : w.ownsRow 0 3 1 (.slice y.av y.nv y.cv) y.nv (icells x.via)
  nds : w.ownsRow 0 3 1 (.slice y.an y.nn y.cn) y.nn (icells x.nds)
  lks : w.ownsRow 0 3 1 (.slice y.al y.nl y.cl) y.nl (icells x.lks)
  cls : w.ownsRow 0 3 1 (.slice y.ac y.nc y.cc) y.nc (icells x.cls)
theorem ROwn.any {w w' : World} {x : Wnt} {y : WSl} (h : ROwn w x y) (ha : ∀ {m : Nat} {v : Value} {xs : List Value}, w.ownsRow 0 3 1 v m xs → w'.ownsRow 0 3 1 v m xs) : ROwn w' x y := ⟨ha h.via, ha h.nds, ha h.lks, ha h.cls⟩
theorem rbox_cells {w : World} {B : Nat} {r : Rul} {y : WSl} (h : RBox B r y w) : w.cell? ⟨B, 0, none⟩ = some (.string (txt r.name)) ∧ w.cell? ⟨B, 1, none⟩ = some (.int .i64 r.pri) ∧ w.cell? ⟨B, 2, none⟩ = some (.int .u32 (r.m.sa : Int)) ∧ w.cell? ⟨B, 3, none⟩ = some (.int .i64 r.m.sl) ∧ w.cell? ⟨B, 4, none⟩ = some (.int .u32 (r.m.da : Int)) ∧ w.cell? ⟨B, 5, none⟩ = some (.int .i64 r.m.dl) ∧ w.cell? ⟨B, 6, none⟩ = some (.int .i64 r.m.pr) ∧ w.cell? ⟨B, 7, none⟩ = some (.int .i64 r.m.sp) ∧ w.cell? ⟨B, 8, none⟩ = some (.int .i64 r.m.dp) ∧
    w.cell? ⟨B, 9, none⟩ = some (.int .i64 r.x.frm) ∧ w.cell? ⟨B, 10, none⟩ = some (.int .i64 r.x.too) ∧ w.cell? ⟨B, 11, none⟩ = some (.int .i64 r.x.bnd) ∧ w.cell? ⟨B, 12, none⟩ = some (.slice y.av y.nv y.cv) ∧ w.cell? ⟨B, 13, none⟩ = some (.slice y.an y.nn y.cn) ∧ w.cell? ⟨B, 14, none⟩ = some (.slice y.al y.nl y.cl) ∧ w.cell? ⟨B, 15, none⟩ = some (.slice y.ac y.nc y.cc) ∧ w.cell? ⟨B, 16, none⟩ = some (.bool r.strict) := by
  refine ⟨?_, ?_, ?_, ?_, ?_, ?_, ?_, ?_, ?_, ?_, ?_, ?_, ?_, ?_, ?_, ?_, ?_⟩ <;> (rw [cell_of_row _ _ _ _ _ _ h]; rfl)
theorem rbox_cell {w : World} {B : Nat} {r : Rul} {y : WSl} (h : RBox B r y w) (j : Nat) {v : Value} (hv : (rarr r y)[j]? = some v) : w.cell? ⟨B, j, none⟩ = some v := by rw [cell_of_row _ _ _ _ _ _ h]; exact hv
def noWSl : WSl := ⟨none, 0, 0, none, 0, 0, none, 0, 0, none, 0, 0⟩
theorem store_rule {ops : Array Oper} {rest : List Oper} {o : Oper} {a : Act} {w : World} {Q : Exit → Act → World → Prop} {B : Nat} {r0 r : Rul} {y0 y : WSl} (h : RBox B r0 y0 w) (hgd : o.guard = none) (x z : Operand) (ho : o.op = .store 58 x z) (hx : a.eval x = .pointer (some ⟨B, 0, none⟩)) (hz : a.eval z = .agg (rarr r y))
    (k : wpList Try.prog ops Q rest (a.put o.dst undef) (w.setRow B (rarr r y))) : wpList Try.prog ops Q (o :: rest) a w :=
  wpList_store_row hgd 58 x z ho B (rarr r y) hx hz 58 _ h (by kernel_rfl) rfl (by simp [rarr, Value.oneCell']) k
theorem RStr.on {a b : World} {A : Option Addr} {n : Nat} {L : List (List UInt8)} (h : RStr a a.heap.size A n L) (hb : Below a.heap.size a b) : RStr b b.heap.size A n L := by
  refine ⟨h.1, fun hn => ?_⟩
  obtain ⟨g, off, hA, hg, hc⟩ := h.2 hn
  exact ⟨g, off, hA, Nat.lt_of_lt_of_le hg hb.size, fun i x hx => (hb.cell (p := ⟨g, off + i, none⟩) hg).trans (hc i x hx)⟩
def rrow (qs : List (Rul × WSl)) : List Value := qs.flatMap fun q => (rarr q.1 q.2).toList
theorem rrow_app (a b : List (Rul × WSl)) : rrow (a ++ b) = rrow a ++ rrow b := List.flatMap_append
theorem rrow_len (qs : List (Rul × WSl)) : (rrow qs).length = qs.length * 17 := by
  induction qs with
  | nil => rfl
  | cons x r ih => simp only [rrow, List.flatMap_cons, List.length_append, List.length_cons] at *; rw [ih]; simp [rarr]; omega
theorem rrow_at {qs : List (Rul × WSl)} {i j : Nat} {q : Rul × WSl} {v : Value} (h : qs[i]? = some q) (hv : (rarr q.1 q.2)[j]? = some v) : (rrow qs)[i * 17 + j]? = some v := by
  have hj : j < 17 := (Array.getElem?_eq_some_iff.1 hv).1
  induction qs generalizing i with
  | nil => simp at h
  | cons x r ih =>
    cases i with
    | zero =>
      simp at h
      subst h
      simp only [rrow, List.flatMap_cons, Nat.zero_mul, Nat.zero_add]
      rw [List.getElem?_append_left (by simpa [rarr] using hj)]
      simpa using hv
    | succ i =>
      simp at h
      have := ih h
      simp only [rrow, List.flatMap_cons]
      rw [List.getElem?_append_right (by simp [rarr]; omega)]
      rw [show (i + 1) * 17 + j - (rarr x.1 x.2).toList.length = i * 17 + j by simp [rarr]; omega]
      exact this
/-- A slice that reads as rules. -/
structure RRul (w : World) (A : Option Addr) (n c : Nat) (qs : List (Rul × WSl)) : Prop where
  len : qs.length = n
  cap : n ≤ c
  non : A = none → n = 0 ∧ c = 0
  row : 0 < n → ∃ b off, A = some ⟨b, off, none⟩ ∧ b < w.heap.size ∧ ∀ (i : Nat) (q : Rul × WSl) (j : Nat) (v : Value), qs[i]? = some q → (rarr q.1 q.2)[j]? = some v → w.cell? ⟨b, off + i * 17 + j, none⟩ = some v
  wants : ∀ q ∈ qs, WArg w q.1.x q.2
theorem RRul.on {w w' : World} {A : Option Addr} {n c : Nat} {qs : List (Rul × WSl)} (h : RRul w A n c qs) (hb : Below w.heap.size w w') : RRul w' A n c qs := by
  refine ⟨h.len, h.cap, h.non, fun hn => ?_, fun q hq => (h.wants q hq).on hb⟩
  obtain ⟨b, off, hA, hlt, hc⟩ := h.row hn
  exact ⟨b, off, hA, Nat.lt_of_lt_of_le hlt hb.size, fun i q j v hq hv => (hb.cell (p := ⟨b, off + i * 17 + j, none⟩) hlt).trans (hc i q j v hq hv)⟩
theorem own_rrul {w : World} {base : Nat} {A : Option Addr} {c : Nat} {qs : List (Rul × WSl)} (h : w.ownsRow base 58 17 (.slice A qs.length c) qs.length (rrow qs)) (hl : ∀ q ∈ qs, WArg w q.1.x q.2) : RRul w A qs.length c qs := by
  refine ⟨rfl, ?_, ?_, fun hn => ?_, hl⟩
  · rcases h.2 with ⟨h1, h2⟩ | ⟨g, cap, cur, h1, _, _, h2, _⟩
    · omega
    · simp only [Value.slice.injEq] at h1; omega
  · intro hA
    subst hA
    rcases h.2 with ⟨h1, h2⟩ | ⟨g, cap, cur, h1, _⟩
    · simp only [Value.slice.injEq] at h1; exact ⟨h2, h1.2.2⟩
    · simp at h1
  · rcases h.2 with ⟨_, h2⟩ | ⟨g, cap, cur, h1, _, hg, _⟩
    · omega
    · simp only [Value.slice.injEq] at h1
      obtain ⟨rfl, _, rfl⟩ := h1
      refine ⟨g, 0, rfl, pst_lt hg, fun i q j v hq hv => ?_⟩
      have k1 := h.cells (g := g) rfl _ _ (rrow_at hq hv)
      rw [Go.WideShapes.add_plain] at k1
      simpa [Nat.add_assoc] using k1
theorem store_rule_lit {ops : Array Oper} {rest : List Oper} {o : Oper} {a : Act} {w : World} {Q : Exit → Act → World → Prop} {B : Nat} {r0 r : Rul} {y0 y : WSl} (h : RBox B r0 y0 w) (hgd : o.guard = none) (x z : Operand) (ho : o.op = .store 58 x z) (hx : a.eval x = .pointer (some ⟨B, 0, none⟩))
    (hz : a.eval z = .agg #[.string (txt r.name), .int .i64 r.pri, .int .u32 (r.m.sa : Int), .int .i64 r.m.sl, .int .u32 (r.m.da : Int), .int .i64 r.m.dl, .int .i64 r.m.pr, .int .i64 r.m.sp, .int .i64 r.m.dp, .int .i64 r.x.frm, .int .i64 r.x.too, .int .i64 r.x.bnd, .slice y.av y.nv y.cv, .slice y.an y.nn y.cn, .slice y.al y.nl y.cl, .slice y.ac y.nc y.cc, .bool r.strict])
    (k : wpList Try.prog ops Q rest (a.put o.dst undef) (w.setRow B (rarr r y))) : wpList Try.prog ops Q (o :: rest) a w :=
  store_rule h hgd x z ho hx hz k
end Go.Proofs.Ythoblabimkfjpaa
