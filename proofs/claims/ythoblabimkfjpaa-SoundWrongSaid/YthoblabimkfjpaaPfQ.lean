/- Cut out of PfQ. -/
import Derived.Test.YthoblabimkfjpaaRuB
import Derived.Test.YthoblabimkfjpaaWdO
import Derived.Deep.Slices
import Derived.Deep.Fields
import Derived.OpenShut
import Derived.ShutString
import Derived.ChangeOld
import Derived.ChangeSame
import Derived.ChangeMaps5
namespace Go.Proofs.Ythoblabimkfjpaa
open Go.ChangeShapes Go.Deep Go.RowKit Go.WideShapes
set_option maxHeartbeats 12800000
set_option maxRecDepth 100000
theorem pref_cells {H : Type} {enc : TypeId × Value → H} {w : World} {base : Nat} {spare : Nat → Bool} {held : Bool} {k : Nat} {c0 c1 : Value} {y : DataW H × List MemPlace}
    (h : DataW.trod enc Try.prog w base spare held k 54 [c0, c1] = some y) : ∃ (a : Nat) (n : Int), c0 = .int .u32 (a : Int) ∧ c1 = .int .i64 n ∧ a < 4294967296 ∧ -9223372036854775808 ≤ n ∧ n ≤ 9223372036854775807 := by
  obtain ⟨xs, n, _, _, _, hxl, hx⟩ := DataW.trod_struct Try.underlying54 h
  have hxl' : xs.length = 2 := hxl
  have g0 : DataW.trod enc Try.prog w base spare held n 52 [c0] = some (xs[0]'(by omega)) := (hx 0 _ rfl).trans (List.getElem?_eq_getElem (by omega))
  have g1 : DataW.trod enc Try.prog w base spare held n 3 [c1] = some (xs[1]'(by omega)) := (hx 1 _ rfl).trans (List.getElem?_eq_getElem (by omega))
  obtain ⟨a, e0, _, w0⟩ := DataW.trod_int Try.underlying52 g0
  obtain ⟨b, e1, _, w1⟩ := DataW.trod_int Try.underlying3 g1
  simp only [List.cons.injEq, and_true] at e0 e1
  subst e0 e1
  have u0 := pf_u32 w0
  have u1 := pf_i64 w1
  obtain ⟨A, rfl⟩ := Int.eq_ofNat_of_zero_le u0.1
  exact ⟨A, b, rfl, rfl, by omega, u1.1, u1.2⟩
theorem open_pref {H : Type} {enc : TypeId × Value → H} {w : World} {r : Reach} {b0 : Nat} {v : Value} {d : DataW H} {p : List MemPlace} (hv : Value.okWide Try.prog w r b0 54 v)
    (h : DataW.Trod enc Try.prog w 0 (fun _ => true) true 54 v d p) : ∃ (a : Nat) (n : Int), v = .agg #[.int .u32 (a : Int), .int .i64 n] ∧ a < 4294967296 ∧ -9223372036854775808 ≤ n ∧ n ≤ 9223372036854775807 := by
  obtain ⟨cs, rfl, hsz⟩ := okWide_struct Try.underlying54 hv
  have hC : Try.prog.cellsOf 54 = 2 := by kernel_rfl
  obtain ⟨l⟩ := cs
  match l, hsz.trans hC with
  | [c0, c1], _ =>
    obtain ⟨fuel, hf⟩ := h
    obtain ⟨a, n, rfl, rfl, h1, h2, h3⟩ := pref_cells hf
    exact ⟨a, n, rfl, h1, h2, h3⟩
theorem open_mat {H : Type} {enc : TypeId × Value → H} {w : World} {r : Reach} {b0 : Nat} {v : Value} {d : DataW H} {p : List MemPlace} (hv : Value.okWide Try.prog w r b0 56 v)
    (h : DataW.Trod enc Try.prog w 0 (fun _ => true) true 56 v d p) : ∃ m : Mat, v = .agg #[.int .u32 (m.sa : Int), .int .i64 m.sl, .int .u32 (m.da : Int), .int .i64 m.dl, .int .i64 m.pr, .int .i64 m.sp, .int .i64 m.dp] ∧ m.sa < 4294967296 ∧ m.da < 4294967296 ∧ (-9223372036854775808 ≤ m.sl ∧ m.sl ≤ 9223372036854775807) ∧ (-9223372036854775808 ≤ m.dl ∧ m.dl ≤ 9223372036854775807) := by
  obtain ⟨cs, rfl, hsz⟩ := okWide_struct Try.underlying56 hv
  have hC : Try.prog.cellsOf 56 = 7 := by kernel_rfl
  obtain ⟨l⟩ := cs
  match l, hsz.trans hC with
  | [c0, c1, c2, c3, c4, c5, c6], _ =>
    obtain ⟨fuel, hf⟩ := h
    obtain ⟨xs, n, _, _, _, hxl, hx⟩ := DataW.trod_struct Try.underlying56 hf
    have hxl' : xs.length = 5 := hxl
    have g0 : DataW.trod enc Try.prog w 0 (fun _ => true) true n 54 [c0, c1] = some (xs[0]'(by omega)) := (hx 0 _ rfl).trans (List.getElem?_eq_getElem (by omega))
    have g1 : DataW.trod enc Try.prog w 0 (fun _ => true) true n 54 [c2, c3] = some (xs[1]'(by omega)) := (hx 1 _ rfl).trans (List.getElem?_eq_getElem (by omega))
    have g2 : DataW.trod enc Try.prog w 0 (fun _ => true) true n 3 [c4] = some (xs[2]'(by omega)) := (hx 2 _ rfl).trans (List.getElem?_eq_getElem (by omega))
    have g3 : DataW.trod enc Try.prog w 0 (fun _ => true) true n 3 [c5] = some (xs[3]'(by omega)) := (hx 3 _ rfl).trans (List.getElem?_eq_getElem (by omega))
    have g4 : DataW.trod enc Try.prog w 0 (fun _ => true) true n 3 [c6] = some (xs[4]'(by omega)) := (hx 4 _ rfl).trans (List.getElem?_eq_getElem (by omega))
    obtain ⟨a, n0, rfl, rfl, h1, h2, h3⟩ := pref_cells g0
    obtain ⟨b, n1, rfl, rfl, h4, h5, h6⟩ := pref_cells g1
    obtain ⟨x2, e2, _, _⟩ := DataW.trod_int Try.underlying3 g2
    obtain ⟨x3, e3, _, _⟩ := DataW.trod_int Try.underlying3 g3
    obtain ⟨x4, e4, _, _⟩ := DataW.trod_int Try.underlying3 g4
    simp only [List.cons.injEq, and_true] at e2 e3 e4
    subst e2 e3 e4
    exact ⟨⟨a, n0, b, n1, x2, x3, x4⟩, rfl, h1, h4, ⟨h2, h3⟩, h5, h6⟩
end Go.Proofs.Ythoblabimkfjpaa
