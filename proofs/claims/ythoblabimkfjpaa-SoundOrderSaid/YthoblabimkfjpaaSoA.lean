/- Rules as an argument: opened. -/
import Derived.Test.YthoblabimkfjpaaRuB
import Derived.Test.YthoblabimkfjpaaPfQ
namespace Go.Proofs.Ythoblabimkfjpaa
open Go.RowKit Go.ChangeShapes Go.WideShapes Go.Deep
set_option maxHeartbeats 6400000
set_option maxRecDepth 100000
def I64 (a : Int) : Prop := -9223372036854775808 ≤ a ∧ a ≤ 9223372036854775807
/-- How great a rule's numbers are. -/
structure RRng (r : Rul) : Prop where
  name : r.name.length ≤ 9223372036854775807
  pri : I64 r.pri
  frm : I64 r.x.frm
  too : I64 r.x.too
  sa : r.m.sa < 4294967296
  da : r.m.da < 4294967296
  sl : I64 r.m.sl
  dl : I64 r.m.dl
  pr : I64 r.m.pr
  sp : I64 r.m.sp
  dp : I64 r.m.dp
theorem mat_cells {H : Type} {enc : TypeId × Value → H} {w : World} {k : Nat} {c0 c1 c2 c3 c4 c5 c6 : Value} {y : DataW H × List MemPlace}
    (h : DataW.trod enc Try.prog w 0 (fun _ => true) true k 56 [c0, c1, c2, c3, c4, c5, c6] = some y) : ∃ m : Mat, [c0, c1, c2, c3, c4, c5, c6] = [.int .u32 (m.sa : Int), .int .i64 m.sl, .int .u32 (m.da : Int), .int .i64 m.dl, .int .i64 m.pr, .int .i64 m.sp, .int .i64 m.dp] ∧ m.sa < 4294967296 ∧ m.da < 4294967296 ∧ I64 m.sl ∧ I64 m.dl ∧ I64 m.pr ∧ I64 m.sp ∧ I64 m.dp := by
  obtain ⟨xs, n, _, _, _, hxl, hx⟩ := DataW.trod_struct Try.underlying56 h
  have hxl' : xs.length = 5 := hxl
  have g0 : DataW.trod enc Try.prog w 0 (fun _ => true) true n 54 [c0, c1] = some (xs[0]'(by omega)) := (hx 0 _ rfl).trans (List.getElem?_eq_getElem (by omega))
  have g1 : DataW.trod enc Try.prog w 0 (fun _ => true) true n 54 [c2, c3] = some (xs[1]'(by omega)) := (hx 1 _ rfl).trans (List.getElem?_eq_getElem (by omega))
  have g2 : DataW.trod enc Try.prog w 0 (fun _ => true) true n 3 [c4] = some (xs[2]'(by omega)) := (hx 2 _ rfl).trans (List.getElem?_eq_getElem (by omega))
  have g3 : DataW.trod enc Try.prog w 0 (fun _ => true) true n 3 [c5] = some (xs[3]'(by omega)) := (hx 3 _ rfl).trans (List.getElem?_eq_getElem (by omega))
  have g4 : DataW.trod enc Try.prog w 0 (fun _ => true) true n 3 [c6] = some (xs[4]'(by omega)) := (hx 4 _ rfl).trans (List.getElem?_eq_getElem (by omega))
  obtain ⟨a, n0, rfl, rfl, h1, h2, h3⟩ := pref_cells g0
  obtain ⟨b, n1, rfl, rfl, h4, h5, h6⟩ := pref_cells g1
  obtain ⟨x2, e2, _, w2⟩ := DataW.trod_int Try.underlying3 g2
  obtain ⟨x3, e3, _, w3⟩ := DataW.trod_int Try.underlying3 g3
  obtain ⟨x4, e4, _, w4⟩ := DataW.trod_int Try.underlying3 g4
  simp only [List.cons.injEq, and_true] at e2 e3 e4
  subst e2 e3 e4
  exact ⟨⟨a, n0, b, n1, x2, x3, x4⟩, rfl, h1, h4, ⟨h2, h3⟩, ⟨h5, h6⟩, pf_i64 w2, pf_i64 w3, pf_i64 w4⟩
theorem want_cells {H : Type} {enc : TypeId × Value → H} {w : World} {k : Nat} {c0 c1 c2 c3 c4 c5 c6 : Value} {y : DataW H × List MemPlace}
    (h : DataW.trod enc Try.prog w 0 (fun _ => true) true k 51 [c0, c1, c2, c3, c4, c5, c6] = some y) : ∃ (x : Wnt) (y : WSl), [c0, c1, c2, c3, c4, c5, c6] = [.int .i64 x.frm, .int .i64 x.too, .int .i64 x.bnd, .slice y.av y.nv y.cv, .slice y.an y.nn y.cn, .slice y.al y.nl y.cl, .slice y.ac y.nc y.cc] ∧ WArg w x y ∧ I64 x.frm ∧ I64 x.too := by
  obtain ⟨xs, n, _, _, _, hxl, hx⟩ := DataW.trod_struct Try.underlying51 h
  have hxl' : xs.length = 7 := hxl
  have g0 : DataW.trod enc Try.prog w 0 (fun _ => true) true n 3 [c0] = some (xs[0]'(by omega)) := (hx 0 _ rfl).trans (List.getElem?_eq_getElem (by omega))
  have g1 : DataW.trod enc Try.prog w 0 (fun _ => true) true n 3 [c1] = some (xs[1]'(by omega)) := (hx 1 _ rfl).trans (List.getElem?_eq_getElem (by omega))
  have g2 : DataW.trod enc Try.prog w 0 (fun _ => true) true n 3 [c2] = some (xs[2]'(by omega)) := (hx 2 _ rfl).trans (List.getElem?_eq_getElem (by omega))
  have g3 : DataW.trod enc Try.prog w 0 (fun _ => true) true n 49 [c3] = some (xs[3]'(by omega)) := (hx 3 _ rfl).trans (List.getElem?_eq_getElem (by omega))
  have g4 : DataW.trod enc Try.prog w 0 (fun _ => true) true n 49 [c4] = some (xs[4]'(by omega)) := (hx 4 _ rfl).trans (List.getElem?_eq_getElem (by omega))
  have g5 : DataW.trod enc Try.prog w 0 (fun _ => true) true n 49 [c5] = some (xs[5]'(by omega)) := (hx 5 _ rfl).trans (List.getElem?_eq_getElem (by omega))
  have g6 : DataW.trod enc Try.prog w 0 (fun _ => true) true n 49 [c6] = some (xs[6]'(by omega)) := (hx 6 _ rfl).trans (List.getElem?_eq_getElem (by omega))
  obtain ⟨a, e0, _, wa⟩ := DataW.trod_int Try.underlying3 g0
  obtain ⟨b, e1, _, wb⟩ := DataW.trod_int Try.underlying3 g1
  obtain ⟨c, e2, _, hc⟩ := DataW.trod_int Try.underlying3 g2
  obtain ⟨A3, n3, c3, l3, rfl, h3⟩ := open_larg g3
  obtain ⟨A4, n4, c4, l4, rfl, h4⟩ := open_larg g4
  obtain ⟨A5, n5, c5, l5, rfl, h5⟩ := open_larg g5
  obtain ⟨A6, n6, c6, l6, rfl, h6⟩ := open_larg g6
  simp only [List.cons.injEq, and_true] at e0 e1 e2
  subst e0 e1 e2
  exact ⟨⟨a, b, c, l3, l4, l5, l6⟩, ⟨A3, n3, c3, A4, n4, c4, A5, n5, c5, A6, n6, c6⟩, rfl, ⟨h3, h4, h5, h6, pf_i64 hc⟩, pf_i64 wa, pf_i64 wb⟩
theorem rule_cells {H : Type} {enc : TypeId × Value → H} {w : World} {k : Nat} {cs : List Value} {y : DataW H × List MemPlace} (hl : cs.length = 17)
    (h : DataW.trod enc Try.prog w 0 (fun _ => true) true k 58 cs = some y) : ∃ q : Rul × WSl, cs = (rarr q.1 q.2).toList ∧ WArg w q.1.x q.2 ∧ RRng q.1 := by
  match cs, hl, h with
  | [c0, c1, c2, c3, c4, c5, c6, c7, c8, c9, c10, c11, c12, c13, c14, c15, c16], _, h =>
    obtain ⟨xs, n, _, _, _, hxl, hx⟩ := DataW.trod_struct Try.underlying58 h
    have hxl' : xs.length = 5 := hxl
    have g0 : DataW.trod enc Try.prog w 0 (fun _ => true) true n 9 [c0] = some (xs[0]'(by omega)) := (hx 0 _ rfl).trans (List.getElem?_eq_getElem (by omega))
    have g1 : DataW.trod enc Try.prog w 0 (fun _ => true) true n 3 [c1] = some (xs[1]'(by omega)) := (hx 1 _ rfl).trans (List.getElem?_eq_getElem (by omega))
    have g2 : DataW.trod enc Try.prog w 0 (fun _ => true) true n 56 [c2, c3, c4, c5, c6, c7, c8] = some (xs[2]'(by omega)) := (hx 2 _ rfl).trans (List.getElem?_eq_getElem (by omega))
    have g3 : DataW.trod enc Try.prog w 0 (fun _ => true) true n 51 [c9, c10, c11, c12, c13, c14, c15] = some (xs[3]'(by omega)) := (hx 3 _ rfl).trans (List.getElem?_eq_getElem (by omega))
    have g4 : DataW.trod enc Try.prog w 0 (fun _ => true) true n 4 [c16] = some (xs[4]'(by omega)) := (hx 4 _ rfl).trans (List.getElem?_eq_getElem (by omega))
    obtain ⟨s, e0, _, w0⟩ := DataW.trod_string Try.underlying9 g0
    obtain ⟨p, e1, _, w1⟩ := DataW.trod_int Try.underlying3 g1
    obtain ⟨m, em, m1, m2, m3, m4, m5, m6, m7⟩ := mat_cells g2
    obtain ⟨x, y, ex, hw, x1, x2⟩ := want_cells g3
    obtain ⟨b, e4, _⟩ := DataW.trod_bool Try.underlying4 g4
    obtain ⟨nm, rfl⟩ := to_txt s
    simp only [List.cons.injEq, and_true] at e0 e1 e4 em ex
    obtain ⟨rfl, rfl, rfl, rfl, rfl, rfl, rfl⟩ := em
    obtain ⟨rfl, rfl, rfl, rfl, rfl, rfl, rfl⟩ := ex
    subst e0 e1 e4
    exact ⟨(⟨nm, p, m, x, b⟩, y), rfl, hw, ⟨txt_max w0, pf_i64 w1, x1, x2, m1, m2, m3, m4, m5, m6, m7⟩⟩
instance rul_inh : Inhabited (Rul × WSl) := ⟨(noRul, ⟨none, 0, 0, none, 0, 0, none, 0, 0, none, 0, 0⟩)⟩
theorem open_rules {H : Type} {enc : TypeId × Value → H} {w : World} {A : Option Addr} {len cap : Nat} {d : DataW H} {p : List MemPlace}
    (h : DataW.Trod enc Try.prog w 0 (fun _ => true) true 40 (.slice A len cap) d p) : ∃ qs : List (Rul × WSl), RRul w A len cap qs ∧ (∀ q ∈ qs, RRng q.1) ∧ len ≤ maxLen := by
  obtain ⟨fuel, hf⟩ := h
  rcases open_slice Try.underlying40 hf with h0 | ⟨a, len', cap', m, n, D, Pl, hcs, hb, hl, hm, hmm, hx, hi⟩
  · have h1 := h0.1
    simp only [Value.cells, List.cons.injEq, and_true] at h1
    simp at h1
    obtain ⟨rfl, rfl, rfl⟩ := h1
    exact ⟨[], ⟨rfl, Nat.le_refl _, fun _ => ⟨rfl, rfl⟩, fun h => by omega, fun q hq => (by cases hq)⟩, fun q hq => (by cases hq), (by unfold maxLen; omega)⟩
  · simp [Value.cells] at hcs
    obtain ⟨rfl, rfl, rfl⟩ := hcs
    have hC : Try.prog.cellsOf 58 = 17 := by kernel_rfl
    have hle : len ≤ m := by
      simp only [if_pos] at hmm
      omega
    have hx : ∀ i, i < len → ∃ q : Rul × WSl, WArg w q.1.x q.2 ∧ RRng q.1 ∧ ∀ (j : Nat) (v : Value), (rarr q.1 q.2)[j]? = some v → w.cell? (a.add (i * 17 + j)) = some v := by
      intro i hil
      obtain ⟨cs, hc, ht⟩ := hi i (by omega)
      rw [hC] at hc
      obtain ⟨_, hcl, hat⟩ := World.cells?_some hc
      obtain ⟨q, rfl, hw, hr⟩ := rule_cells hcl ht
      refine ⟨q, hw, hr, fun j v hv => ?_⟩
      have hj : j < 17 := (Array.getElem?_eq_some_iff.1 hv).1
      rw [← Go.Deep.add_add, hat j hj, Array.getElem?_toList]
      exact hv
    obtain ⟨E, hE⟩ := choose_lt hx
    have hmem : ∀ q ∈ (List.range len).map E, ∃ i, i < len ∧ q = E i := by
      intro q hq
      obtain ⟨i, hi, rfl⟩ := List.mem_map.1 hq
      exact ⟨i, List.mem_range.1 hi, rfl⟩
    refine ⟨(List.range len).map E, ⟨by simp, hl, fun h => (by cases h), fun hn => ?_, fun q hq => ?_⟩, fun q hq => ?_, by omega⟩
    · have c0 := (hE 0 hn).2.2 0 (.string (txt (E 0).1.name)) rfl
      have hsp : a.spot = none := by
        have := World.cell?_spot c0
        simpa [Addr.add] using this
      obtain ⟨b, off, spot⟩ := a
      subst hsp
      have hb2 := cell_lt c0
      rw [Go.WideShapes.add_plain] at hb2
      refine ⟨b, off, rfl, hb2, fun i q j v he hv => ?_⟩
      rw [List.getElem?_map] at he
      rcases Nat.lt_or_ge i len with hil | hil
      · rw [List.getElem?_range hil] at he
        simp only [Option.map_some, Option.some.injEq] at he
        subst he
        have := (hE i hil).2.2 j v hv
        rw [Go.WideShapes.add_plain, ← Nat.add_assoc] at this
        exact this
      · rw [List.getElem?_eq_none (by simpa using hil)] at he
        simp at he
    · obtain ⟨i, hi, rfl⟩ := hmem q hq
      exact (hE i hi).1
    · obtain ⟨i, hi, rfl⟩ := hmem q hq
      exact (hE i hi).2.1
end Go.Proofs.Ythoblabimkfjpaa
