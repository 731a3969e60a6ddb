/- An array of two numbers as an argument; OptTells at every input. -/
import Derived.Test.YtabgbhkpeeibaaaOpT
import Derived.Test.YtabgbhkpeeibaaaWdC
import Derived.OpenShut
namespace Go.Proofs.Ytabgbhkpeeibaaa
open Go.RowKit Go.WideShapes
set_option maxHeartbeats 6400000
set_option maxRecDepth 100000
theorem open_arr2 {H : Type} {enc : TypeId × Value → H} {w : World} {r : Reach} {b0 : Nat} {v : Value} {d : DataW H} {p : List MemPlace} (hv : Value.okWide Try.prog w r b0 29 v)
    (h : DataW.Trod enc Try.prog w 0 (fun _ => true) true 29 v d p) : ∃ a b : Int, v = .agg #[.int .i64 a, .int .i64 b] ∧ (-9223372036854775808 ≤ a ∧ a ≤ 9223372036854775807) ∧ (-9223372036854775808 ≤ b ∧ b ≤ 9223372036854775807) := by
  have h0 := hv
  simp only [Value.okWide, Try.underlying29] at h0
  obtain ⟨cs, rfl, hsz, -⟩ := h0
  have hs2 : cs.size = 2 := hsz.trans (by kernel_rfl)
  obtain ⟨⟨L⟩⟩ : Nonempty (∃ c0 c1 : Value, cs = #[c0, c1]) := by
    obtain ⟨l⟩ := cs
    match l, hs2 with
    | [c0, c1], _ => exact ⟨⟨c0, c1, rfl⟩⟩
  obtain ⟨c1, rfl⟩ := ‹_›
  obtain ⟨fuel, hf⟩ := h
  obtain ⟨xs, m, rfl, -, -, hxl, hx⟩ := DataW.trod_array Try.underlying29 hf
  have hc : Try.prog.cellsOf 3 = 1 := by kernel_rfl
  have x0 := (hx 0 (by omega)).trans (List.getElem?_eq_getElem (by omega))
  have x1 := (hx 1 (by omega)).trans (List.getElem?_eq_getElem (by omega))
  rw [hc] at x0 x1
  obtain ⟨a, e0, _, wa⟩ := DataW.trod_int Try.underlying3 x0
  obtain ⟨b, e1, _, wb⟩ := DataW.trod_int Try.underlying3 x1
  have f0 : L = .int .i64 a := by simpa [Value.cells] using e0
  have f1 : c1 = .int .i64 b := by simpa [Value.cells] using e1
  subst f0 f1
  exact ⟨a, b, rfl, wf_i64 wa, wf_i64 wb⟩
theorem optTells_any (hO : OptSpec 9 12 14 18 16) (nd : Int) (A : Option Addr) (n c : Nat) (x : Wnt) (y : WSl) (v k : Int) (l : List Lnk) (Ad : Option Addr) (n' c' : Nat) (dn : List Bool) (Ae : Option Addr) (ne ce : Nat) (es : List Int) (w : World) (hr : RLnk w w.heap.size A n l) (hcp : n ≤ c) (hA : A = none → n = 0 ∧ c = 0) (h0 : -9223372036854775808 ≤ nd ∧ nd ≤ 9223372036854775807) (hw : WArg w x y) (hd : RBl w w.heap.size Ad n' dn) (hdc : n' ≤ c') (hdn : Ad = none → n' = 0 ∧ c' = 0) (he : RInt w w.heap.size Ae ne es) (her : ∀ e ∈ es, -9223372036854775808 ≤ e ∧ e ≤ 9223372036854775807)
    (hv : -9223372036854775808 ≤ v ∧ v ≤ 9223372036854775807) (hk : -9223372036854775808 ≤ k ∧ k ≤ 9223372036854775807) :
    Calls Try.prog 3 #[.agg #[.int .i64 nd, .slice A n c], .agg #[.int .i64 x.frm, .int .i64 x.too, .int .i64 x.bnd, .slice y.av y.nv y.cv, .slice y.an y.nn y.cn, .slice y.al y.nl y.cl, .slice y.ac y.nc y.cc], .slice Ad n' c', .agg #[.int .i64 v, .int .i64 k], .slice Ae ne ce] w fun e w' => e = .returned (.bool true) ∧ Below w.heap.size w w' := by
  by_cases h : 40 < n ∨ fewB y = false ∨ 200 < n' ∨ 60 < ne
  · exact optTells_out hO nd A n c x y v k Ad n' c' Ae ne ce w h
  · have hf : fewB y = true := by
      cases hq : fewB y with
      | true => rfl
      | false => exact absurd (.inr (.inl hq)) h
    have h1 : n ≤ 40 ∧ n' ≤ 200 ∧ ne ≤ 60 := by omega
    exact optTells_in hO nd A n c x y v k l Ad n' c' dn Ae ne ce es w ⟨hr, by omega, hcp, hA, h0.1, h0.2⟩ h1.1 hw ⟨hd, h1.2.1, hdc, hdn⟩ ⟨he, h1.2.2, her⟩ hf hv hk
end Go.Proofs.Ytabgbhkpeeibaaa
