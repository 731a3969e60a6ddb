/- Arguments opened: a segment, rows of segments, rows of entries. -/
import Derived.Test.YtjblhajmnlcfaaaFiE
import Derived.Deep.Slices
import Derived.Deep.Fields
import Derived.OpenShut
import Derived.ChangeOld
import Derived.ChangeSame
import Derived.ChangeMaps5
namespace Go.Proofs.Ytjblhajmnlcfaaa
open Go.RowKit Go.ChangeShapes Go.WideShapes Go.Deep
set_option maxHeartbeats 3200000
set_option maxRecDepth 100000
instance sg_inh : Inhabited Sg := ⟨noSg⟩
instance en_inh : Inhabited En := ⟨⟨0, 0, 0, false⟩⟩
theorem lit_j64 {n : Int} (h : (Lit.int .i64 n).wf = true) : J64 n := ⟨(wf_i64 h).1, (wf_i64 h).2⟩
theorem open_sg {H : Type} {enc : TypeId × Value → H} {w : World} {r : Reach} {b0 : Nat} {v : Value} {d : DataW H} {p : List MemPlace} (hv : Value.okWide Try.prog w r b0 26 v)
    (h : DataW.Trod enc Try.prog w 0 (fun _ => true) true 26 v d p) : ∃ s : Sg, v = .agg #[.bool s.edge, .int .i64 s.too] ∧ J64 s.too := by
  obtain ⟨cs, rfl, hsz⟩ := okWide_struct Try.underlying26 hv
  have hC : Try.prog.cellsOf 26 = 2 := by kernel_rfl
  obtain ⟨l⟩ := cs
  match l, hsz.trans hC with
  | [c0, c1], _ =>
    obtain ⟨fuel, hf⟩ := h
    obtain ⟨xs, n, _, _, _, hxl, hx⟩ := DataW.trod_struct Try.underlying26 hf
    have hxl' : xs.length = 2 := hxl
    have g0 : DataW.trod enc Try.prog w 0 (fun _ => true) true n 4 [c0] = some (xs[0]'(by omega)) := (hx 0 _ rfl).trans (List.getElem?_eq_getElem (by omega))
    have g1 : DataW.trod enc Try.prog w 0 (fun _ => true) true n 3 [c1] = some (xs[1]'(by omega)) := (hx 1 _ rfl).trans (List.getElem?_eq_getElem (by omega))
    obtain ⟨b, e0, _⟩ := DataW.trod_bool Try.underlying4 g0
    obtain ⟨x, e1, _, w1⟩ := DataW.trod_int Try.underlying3 g1
    simp only [List.cons.injEq, and_true] at e0 e1
    subst e0 e1
    exact ⟨⟨b, x⟩, rfl, lit_j64 w1⟩
theorem open_sgs {H : Type} {enc : TypeId × Value → H} {w : World} {A : Option Addr} {len cap : Nat} {d : DataW H} {p : List MemPlace}
    (h : DataW.Trod enc Try.prog w 0 (fun _ => true) true 27 (.slice A len cap) d p) : ∃ l : List Sg, RSeg w w.heap.size A len l ∧ len ≤ maxLen ∧ (A = none → len = 0 ∧ cap = 0) ∧ len ≤ cap ∧ ∀ e ∈ l, J64 e.too := by
  obtain ⟨fuel, hf⟩ := h
  rcases open_slice_fields Try.underlying27 Try.underlying26 (by kernel_rfl) (by kernel_rfl) hf with h0 | ⟨a, len', cap', m, hcs, hl, hm, hlm, hi⟩
  · simp [Value.cells] at h0
    obtain ⟨rfl, rfl, rfl⟩ := h0
    exact ⟨[], ⟨rfl, fun h => by omega⟩, by unfold maxLen; omega, fun _ => ⟨rfl, rfl⟩, Nat.le_refl _, fun e he => (by cases he)⟩
  · simp [Value.cells] at hcs
    obtain ⟨rfl, rfl, rfl⟩ := hcs
    have hx : ∀ i, i < len → ∃ e : Sg, (w.cell? (a.add (i * 2 + 0)) = some (.bool e.edge) ∧ w.cell? (a.add (i * 2 + 1)) = some (.int .i64 e.too)) ∧ J64 e.too := by
      intro i hi'
      obtain ⟨n, hf⟩ := hi i (by omega)
      obtain ⟨v0, y0, g0, t0⟩ := hf 0 _ rfl
      obtain ⟨v1, y1, g1, t1⟩ := hf 1 _ rfl
      obtain ⟨n0, e0, _⟩ := DataW.trod_bool Try.underlying4 t0
      obtain ⟨n1, e1, _, z1⟩ := DataW.trod_int Try.underlying3 t1
      simp only [List.cons.injEq, and_true] at e0 e1
      subst e0 e1
      exact ⟨⟨n0, n1⟩, ⟨g0, g1⟩, lit_j64 z1⟩
    obtain ⟨E, hE⟩ := choose_lt hx
    have hm2 : ∀ (i : Nat) (e : Sg), ((List.range len).map E)[i]? = some e → i < len ∧ E i = e := by
      intro i e he
      simp only [List.getElem?_map, Option.map_eq_some_iff] at he
      obtain ⟨j, hj, rfl⟩ := he
      have hj2 : i < len := by
        have := (List.getElem?_eq_some_iff.1 hj).1
        simpa using this
      rw [List.getElem?_range hj2] at hj
      injection hj with hj
      subst hj
      exact ⟨hj2, rfl⟩
    refine ⟨(List.range len).map E, ⟨by simp, fun hn => ?_⟩, by omega, fun h => (by cases h), hl, fun e he => ?_⟩
    · have hsp : a.spot = none := by
        have := World.cell?_spot (hE 0 hn).1.1
        simpa [Addr.add] using this
      obtain ⟨b, off, spot⟩ := a
      subst hsp
      have hb := cell_lt (hE 0 hn).1.1
      rw [Go.WideShapes.add_plain] at hb
      refine ⟨b, off, rfl, hb, fun i e he => ?_⟩
      obtain ⟨hi2, rfl⟩ := hm2 i e he
      obtain ⟨g0, g1⟩ := (hE i hi2).1
      simp only [Go.WideShapes.add_plain] at g0 g1
      exact ⟨g0, by rw [Nat.add_assoc]; exact g1⟩
    · obtain ⟨i, hi2⟩ := List.mem_iff_getElem?.1 he
      obtain ⟨hi3, rfl⟩ := hm2 i e hi2
      exact (hE i hi3).2
theorem open_ens {H : Type} {enc : TypeId × Value → H} {w : World} {A : Option Addr} {len cap : Nat} {d : DataW H} {p : List MemPlace}
    (h : DataW.Trod enc Try.prog w 0 (fun _ => true) true 28 (.slice A len cap) d p) : ∃ l : List En, REn w w.heap.size A len l ∧ len ≤ maxLen ∧ (A = none → len = 0 ∧ cap = 0) ∧ len ≤ cap ∧ ∀ e ∈ l, J64 e.lab := by
  obtain ⟨fuel, hf⟩ := h
  rcases open_slice_fields Try.underlying28 Try.underlying38 (by kernel_rfl) (by kernel_rfl) hf with h0 | ⟨a, len', cap', m, hcs, hl, hm, hlm, hi⟩
  · simp [Value.cells] at h0
    obtain ⟨rfl, rfl, rfl⟩ := h0
    exact ⟨[], ⟨rfl, fun h => by omega⟩, by unfold maxLen; omega, fun _ => ⟨rfl, rfl⟩, Nat.le_refl _, fun e he => (by cases he)⟩
  · simp [Value.cells] at hcs
    obtain ⟨rfl, rfl, rfl⟩ := hcs
    have hx : ∀ i, i < len → ∃ e : En, (w.cell? (a.add (i * 4 + 0)) = some (.int .i64 e.lab) ∧ w.cell? (a.add (i * 4 + 1)) = some (.int .i64 e.cls) ∧ w.cell? (a.add (i * 4 + 2)) = some (.int .i64 e.ttl) ∧ w.cell? (a.add (i * 4 + 3)) = some (.bool e.last)) ∧ J64 e.lab := by
      intro i hi'
      obtain ⟨n, hf⟩ := hi i (by omega)
      obtain ⟨v0, y0, g0, t0⟩ := hf 0 _ rfl
      obtain ⟨v1, y1, g1, t1⟩ := hf 1 _ rfl
      obtain ⟨v2, y2, g2, t2⟩ := hf 2 _ rfl
      obtain ⟨v3, y3, g3, t3⟩ := hf 3 _ rfl
      obtain ⟨n0, e0, _, z0⟩ := DataW.trod_int Try.underlying3 t0
      obtain ⟨n1, e1, _, z1⟩ := DataW.trod_int Try.underlying3 t1
      obtain ⟨n2, e2, _, z2⟩ := DataW.trod_int Try.underlying3 t2
      obtain ⟨n3, e3, _⟩ := DataW.trod_bool Try.underlying4 t3
      simp only [List.cons.injEq, and_true] at e0 e1 e2 e3
      subst e0 e1 e2 e3
      exact ⟨⟨n0, n1, n2, n3⟩, ⟨g0, g1, g2, g3⟩, lit_j64 z0⟩
    obtain ⟨E, hE⟩ := choose_lt hx
    have hm2 : ∀ (i : Nat) (e : En), ((List.range len).map E)[i]? = some e → i < len ∧ E i = e := by
      intro i e he
      simp only [List.getElem?_map, Option.map_eq_some_iff] at he
      obtain ⟨j, hj, rfl⟩ := he
      have hj2 : i < len := by
        have := (List.getElem?_eq_some_iff.1 hj).1
        simpa using this
      rw [List.getElem?_range hj2] at hj
      injection hj with hj
      subst hj
      exact ⟨hj2, rfl⟩
    refine ⟨(List.range len).map E, ⟨by simp, fun hn => ?_⟩, by omega, fun h => (by cases h), hl, fun e he => ?_⟩
    · have hsp : a.spot = none := by
        have := World.cell?_spot (hE 0 hn).1.1
        simpa [Addr.add] using this
      obtain ⟨b, off, spot⟩ := a
      subst hsp
      have hb := cell_lt (hE 0 hn).1.1
      rw [Go.WideShapes.add_plain] at hb
      refine ⟨b, off, rfl, hb, fun i e he => ?_⟩
      obtain ⟨hi2, rfl⟩ := hm2 i e he
      obtain ⟨g0, g1, g2, g3⟩ := (hE i hi2).1
      simp only [Go.WideShapes.add_plain] at g0 g1 g2 g3
      exact ⟨g0, by rw [Nat.add_assoc]; exact g1, by rw [Nat.add_assoc]; exact g2, by rw [Nat.add_assoc]; exact g3⟩
    · obtain ⟨i, hi2⟩ := List.mem_iff_getElem?.1 he
      obtain ⟨hi3, rfl⟩ := hm2 i e hi2
      exact (hE i hi3).2
end Go.Proofs.Ytjblhajmnlcfaaa
