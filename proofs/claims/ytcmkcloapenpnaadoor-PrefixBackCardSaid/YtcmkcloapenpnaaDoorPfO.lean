/- Arguments opened: texts, prefixes, matches, flows. -/
import Derived.Test.YtcmkcloapenpnaaDoorPfF
import Derived.Test.YtcmkcloapenpnaaDoorWdO
import Derived.Deep.Slices
import Derived.Deep.Fields
import Derived.OpenShut
import Derived.ShutString
import Derived.ChangeOld
import Derived.ChangeSame
import Derived.ChangeMaps5
namespace Go.Proofs.YtcmkcloapenpnaaDoor
open Go.RowKit Go.ChangeShapes Go.WideShapes Go.Deep
set_option maxHeartbeats 3200000
set_option maxRecDepth 100000
theorem pref_cells {H : Type} {enc : TypeId × Value → H} {w : World} {base : Nat} {spare : Nat → Bool} {held : Bool} {k : Nat} {c0 c1 : Value} {y : DataW H × List MemPlace}
    (h : DataW.trod enc Tryd.prog w base spare held k 24 [c0, c1] = some y) : ∃ (a : Nat) (n : Int), c0 = .int .u32 (a : Int) ∧ c1 = .int .i64 n ∧ a < 4294967296 ∧ -9223372036854775808 ≤ n ∧ n ≤ 9223372036854775807 := by
  obtain ⟨xs, n, _, _, _, hxl, hx⟩ := DataW.trod_struct Tryd.underlying24 h
  have hxl' : xs.length = 2 := hxl
  have g0 : DataW.trod enc Tryd.prog w base spare held n 22 [c0] = some (xs[0]'(by omega)) := (hx 0 _ rfl).trans (List.getElem?_eq_getElem (by omega))
  have g1 : DataW.trod enc Tryd.prog w base spare held n 3 [c1] = some (xs[1]'(by omega)) := (hx 1 _ rfl).trans (List.getElem?_eq_getElem (by omega))
  obtain ⟨a, e0, _, w0⟩ := DataW.trod_int Tryd.underlying22 g0
  obtain ⟨b, e1, _, w1⟩ := DataW.trod_int Tryd.underlying3 g1
  simp only [List.cons.injEq, and_true] at e0 e1
  subst e0 e1
  have u0 := pf_u32 w0
  have u1 := pf_i64 w1
  obtain ⟨A, rfl⟩ := Int.eq_ofNat_of_zero_le u0.1
  exact ⟨A, b, rfl, rfl, by omega, u1.1, u1.2⟩
theorem open_pref {H : Type} {enc : TypeId × Value → H} {w : World} {r : Reach} {b0 : Nat} {v : Value} {d : DataW H} {p : List MemPlace} (hv : Value.okWide Tryd.prog w r b0 24 v)
    (h : DataW.Trod enc Tryd.prog w 0 (fun _ => true) true 24 v d p) : ∃ (a : Nat) (n : Int), v = .agg #[.int .u32 (a : Int), .int .i64 n] ∧ a < 4294967296 ∧ -9223372036854775808 ≤ n ∧ n ≤ 9223372036854775807 := by
  obtain ⟨cs, rfl, hsz⟩ := okWide_struct Tryd.underlying24 hv
  have hC : Tryd.prog.cellsOf 24 = 2 := by kernel_rfl
  obtain ⟨l⟩ := cs
  match l, hsz.trans hC with
  | [c0, c1], _ =>
    obtain ⟨fuel, hf⟩ := h
    obtain ⟨a, n, rfl, rfl, h1, h2, h3⟩ := pref_cells hf
    exact ⟨a, n, rfl, h1, h2, h3⟩
theorem open_mat {H : Type} {enc : TypeId × Value → H} {w : World} {r : Reach} {b0 : Nat} {v : Value} {d : DataW H} {p : List MemPlace} (hv : Value.okWide Tryd.prog w r b0 26 v)
    (h : DataW.Trod enc Tryd.prog w 0 (fun _ => true) true 26 v d p) : ∃ m : Mat, v = .agg #[.int .u32 (m.sa : Int), .int .i64 m.sl, .int .u32 (m.da : Int), .int .i64 m.dl, .int .i64 m.pr, .int .i64 m.sp, .int .i64 m.dp] ∧ m.sa < 4294967296 ∧ m.da < 4294967296 ∧ (-9223372036854775808 ≤ m.sl ∧ m.sl ≤ 9223372036854775807) ∧ (-9223372036854775808 ≤ m.dl ∧ m.dl ≤ 9223372036854775807) := by
  obtain ⟨cs, rfl, hsz⟩ := okWide_struct Tryd.underlying26 hv
  have hC : Tryd.prog.cellsOf 26 = 7 := by kernel_rfl
  obtain ⟨l⟩ := cs
  match l, hsz.trans hC with
  | [c0, c1, c2, c3, c4, c5, c6], _ =>
    obtain ⟨fuel, hf⟩ := h
    obtain ⟨xs, n, _, _, _, hxl, hx⟩ := DataW.trod_struct Tryd.underlying26 hf
    have hxl' : xs.length = 5 := hxl
    have g0 : DataW.trod enc Tryd.prog w 0 (fun _ => true) true n 24 [c0, c1] = some (xs[0]'(by omega)) := (hx 0 _ rfl).trans (List.getElem?_eq_getElem (by omega))
    have g1 : DataW.trod enc Tryd.prog w 0 (fun _ => true) true n 24 [c2, c3] = some (xs[1]'(by omega)) := (hx 1 _ rfl).trans (List.getElem?_eq_getElem (by omega))
    have g2 : DataW.trod enc Tryd.prog w 0 (fun _ => true) true n 3 [c4] = some (xs[2]'(by omega)) := (hx 2 _ rfl).trans (List.getElem?_eq_getElem (by omega))
    have g3 : DataW.trod enc Tryd.prog w 0 (fun _ => true) true n 3 [c5] = some (xs[3]'(by omega)) := (hx 3 _ rfl).trans (List.getElem?_eq_getElem (by omega))
    have g4 : DataW.trod enc Tryd.prog w 0 (fun _ => true) true n 3 [c6] = some (xs[4]'(by omega)) := (hx 4 _ rfl).trans (List.getElem?_eq_getElem (by omega))
    obtain ⟨a, n0, rfl, rfl, h1, h2, h3⟩ := pref_cells g0
    obtain ⟨b, n1, rfl, rfl, h4, h5, h6⟩ := pref_cells g1
    obtain ⟨x2, e2, _, _⟩ := DataW.trod_int Tryd.underlying3 g2
    obtain ⟨x3, e3, _, _⟩ := DataW.trod_int Tryd.underlying3 g3
    obtain ⟨x4, e4, _, _⟩ := DataW.trod_int Tryd.underlying3 g4
    simp only [List.cons.injEq, and_true] at e2 e3 e4
    subst e2 e3 e4
    exact ⟨⟨a, n0, b, n1, x2, x3, x4⟩, rfl, h1, h4, ⟨h2, h3⟩, h5, h6⟩
theorem open_flw {H : Type} {enc : TypeId × Value → H} {w : World} {r : Reach} {b0 : Nat} {v : Value} {d : DataW H} {p : List MemPlace} (hv : Value.okWide Tryd.prog w r b0 28 v)
    (h : DataW.Trod enc Tryd.prog w 0 (fun _ => true) true 28 v d p) : ∃ t : Flw, v = .agg #[.int .u32 (t.s : Int), .int .u32 (t.d : Int), .int .i64 t.p, .int .i64 t.sp, .int .i64 t.dp] ∧ t.s < 4294967296 ∧ t.d < 4294967296 := by
  obtain ⟨cs, rfl, hsz⟩ := okWide_struct Tryd.underlying28 hv
  have hC : Tryd.prog.cellsOf 28 = 5 := by kernel_rfl
  obtain ⟨l⟩ := cs
  match l, hsz.trans hC with
  | [c0, c1, c2, c3, c4], _ =>
    obtain ⟨fuel, hf⟩ := h
    obtain ⟨xs, n, _, _, _, hxl, hx⟩ := DataW.trod_struct Tryd.underlying28 hf
    have hxl' : xs.length = 5 := hxl
    have g0 : DataW.trod enc Tryd.prog w 0 (fun _ => true) true n 22 [c0] = some (xs[0]'(by omega)) := (hx 0 _ rfl).trans (List.getElem?_eq_getElem (by omega))
    have g1 : DataW.trod enc Tryd.prog w 0 (fun _ => true) true n 22 [c1] = some (xs[1]'(by omega)) := (hx 1 _ rfl).trans (List.getElem?_eq_getElem (by omega))
    have g2 : DataW.trod enc Tryd.prog w 0 (fun _ => true) true n 3 [c2] = some (xs[2]'(by omega)) := (hx 2 _ rfl).trans (List.getElem?_eq_getElem (by omega))
    have g3 : DataW.trod enc Tryd.prog w 0 (fun _ => true) true n 3 [c3] = some (xs[3]'(by omega)) := (hx 3 _ rfl).trans (List.getElem?_eq_getElem (by omega))
    have g4 : DataW.trod enc Tryd.prog w 0 (fun _ => true) true n 3 [c4] = some (xs[4]'(by omega)) := (hx 4 _ rfl).trans (List.getElem?_eq_getElem (by omega))
    obtain ⟨x0, e0, _, w0⟩ := DataW.trod_int Tryd.underlying22 g0
    obtain ⟨x1, e1, _, w1⟩ := DataW.trod_int Tryd.underlying22 g1
    obtain ⟨x2, e2, _, _⟩ := DataW.trod_int Tryd.underlying3 g2
    obtain ⟨x3, e3, _, _⟩ := DataW.trod_int Tryd.underlying3 g3
    obtain ⟨x4, e4, _, _⟩ := DataW.trod_int Tryd.underlying3 g4
    simp only [List.cons.injEq, and_true] at e0 e1 e2 e3 e4
    subst e0 e1 e2 e3 e4
    have u0 := pf_u32 w0
    have u1 := pf_u32 w1
    obtain ⟨A, rfl⟩ := Int.eq_ofNat_of_zero_le u0.1
    obtain ⟨B, rfl⟩ := Int.eq_ofNat_of_zero_le u1.1
    exact ⟨⟨A, B, x2, x3, x4⟩, rfl, by show A < _; omega, by show B < _; omega⟩
end Go.Proofs.YtcmkcloapenpnaaDoor
