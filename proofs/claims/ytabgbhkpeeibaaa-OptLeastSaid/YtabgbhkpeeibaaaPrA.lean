/- Wants: as data, read, opened; has, SameBools. -/
import Derived.Test.YtabgbhkpeeibaaaSpB
namespace Go.Proofs.Ytabgbhkpeeibaaa
open Go.RowKit Go.ChangeShapes Go.WideShapes Go.Deep
set_option maxHeartbeats 3200000
set_option maxRecDepth 100000
/-- What a want says. -/
structure Wnt where
  frm : Int
  too : Int
  bnd : Int
  via : List Int
  nds : List Int
  lks : List Int
  cls : List Int
/-- Where its lists lie. -/
structure WSl where
  av : Option Addr
  nv : Nat
  cv : Nat
  an : Option Addr
  nn : Nat
  cn : Nat
  al : Option Addr
  nl : Nat
  cl : Nat
  ac : Option Addr
  nc : Nat
  cc : Nat
/-- A list of numbers as a call gets it. -/
structure LArg (w : World) (A : Option Addr) (n c : Nat) (l : List Int) : Prop where
  row : RInt w w.heap.size A n l
  cap : n ≤ c
  non : A = none → n = 0 ∧ c = 0
  max : n ≤ maxLen
  rng : ∀ x ∈ l, -9223372036854775808 ≤ x ∧ x ≤ 9223372036854775807
theorem LArg.on {w w' : World} {A : Option Addr} {n c : Nat} {l : List Int} (h : LArg w A n c l) (hb : Below w.heap.size w w') : LArg w' A n c l := ⟨(h.row.below hb).more hb.size, h.cap, h.non, h.max, h.rng⟩
structure WArg (w : World) (x : Wnt) (y : WSl) : Prop where
  via : LArg w y.av y.nv y.cv x.via
  nds : LArg w y.an y.nn y.cn x.nds
  lks : LArg w y.al y.nl y.cl x.lks
  cls : LArg w y.ac y.nc y.cc x.cls
  rng : -9223372036854775808 ≤ x.bnd ∧ x.bnd ≤ 9223372036854775807
theorem WArg.on {w w' : World} {x : Wnt} {y : WSl} (h : WArg w x y) (hb : Below w.heap.size w w') : WArg w' x y := ⟨h.via.on hb, h.nds.on hb, h.lks.on hb, h.cls.on hb, h.rng⟩
theorem array7 {cs : Array Value} (h : cs.size = 7) : ∃ a b c d e f g, cs = #[a, b, c, d, e, f, g] := by
  obtain ⟨l⟩ := cs
  match l, h with
  | [a, b, c, d, e, f, g], _ => exact ⟨a, b, c, d, e, f, g, rfl⟩
theorem open_larg {H : Type} {enc : TypeId × Value → H} {w : World} {k : Nat} {v : Value} {y : DataW H × List MemPlace}
    (h : DataW.trod enc Try.prog w 0 (fun _ => true) true k 25 [v] = some y) : ∃ (A : Option Addr) (n c : Nat) (l : List Int), v = .slice A n c ∧ LArg w A n c l := by
  have key : ∀ (A : Option Addr) (n c : Nat), v = .slice A n c → ∃ (A : Option Addr) (n c : Nat) (l : List Int), v = .slice A n c ∧ LArg w A n c l := by
    intro A n c hv
    subst hv
    obtain ⟨l, h1, h2, h3, h4, h5⟩ := open_nms (d := y.1) (p := y.2) ⟨k, h⟩
    exact ⟨A, n, c, l, rfl, h1, h5, h4, h3, h2⟩
  rcases open_slice Try.underlying25 h with ⟨h0, _⟩ | ⟨a, len, cap, _, _, _, _, h0, _⟩
  · simp only [List.cons.injEq, and_true] at h0
    exact key _ _ _ h0
  · simp only [List.cons.injEq, and_true] at h0
    exact key _ _ _ h0
section
variable {H : Type} {enc : TypeId × Value → H} {P : Program} {w : World} {base : Nat} {spare : Nat → Bool} {held : Bool}
theorem open_agg7 {r : Reach} {b0 : Nat} {t : TypeId} {f0 f1 f2 f3 f4 f5 f6 : Field} {v : Value} {d : DataW H} {p : List MemPlace} (hs : P.underlying t = some (.struct #[f0, f1, f2, f3, f4, f5, f6])) (hone : oneCellFields P #[f0, f1, f2, f3, f4, f5, f6] = true) (hC : P.cellsOf t = 7)
    (hv : Value.okWide P w r b0 t v) (h : DataW.Trod enc P w base spare held t v d p) :
    ∃ (v0 v1 v2 v3 v4 v5 v6 : Value) (n : Nat), v = .agg #[v0, v1, v2, v3, v4, v5, v6] ∧
      (∃ y, DataW.trod enc P w base spare held n f0.type [v0] = some y) ∧ (∃ y, DataW.trod enc P w base spare held n f1.type [v1] = some y) ∧ (∃ y, DataW.trod enc P w base spare held n f2.type [v2] = some y) ∧
      (∃ y, DataW.trod enc P w base spare held n f3.type [v3] = some y) ∧ (∃ y, DataW.trod enc P w base spare held n f4.type [v4] = some y) ∧ (∃ y, DataW.trod enc P w base spare held n f5.type [v5] = some y) ∧ (∃ y, DataW.trod enc P w base spare held n f6.type [v6] = some y) := by
  obtain ⟨cs, rfl, hsz⟩ := okWide_struct hs hv
  obtain ⟨c0, c1, c2, c3, c4, c5, c6, rfl⟩ := array7 (hsz.trans hC)
  obtain ⟨fuel, hf⟩ := h
  obtain ⟨xs, n, _, _, _, hxl, hx⟩ := DataW.trod_struct hs hf
  have hxl' : xs.length = 7 := hxl
  have g : ∀ (j : Nat) (f : Field), (#[f0, f1, f2, f3, f4, f5, f6] : Array Field)[j]? = some f → j < 7 → ∃ y, DataW.trod enc P w base spare held n f.type ((([c0, c1, c2, c3, c4, c5, c6] : List Value).drop j).take 1) = some y := by
    intro j f hj hj7
    obtain ⟨o, k⟩ := hone_of hone j f hj
    have h1 := hx j f hj
    rw [o, k] at h1
    exact ⟨xs[j]'(by omega), h1.trans (List.getElem?_eq_getElem (by omega))⟩
  exact ⟨c0, c1, c2, c3, c4, c5, c6, n, rfl, g 0 f0 rfl (by omega), g 1 f1 rfl (by omega), g 2 f2 rfl (by omega), g 3 f3 rfl (by omega), g 4 f4 rfl (by omega), g 5 f5 rfl (by omega), g 6 f6 rfl (by omega)⟩
end
theorem open_want {H : Type} {enc : TypeId × Value → H} {w : World} {r : Reach} {b0 : Nat} {v : Value} {d : DataW H} {p : List MemPlace} (hv : Value.okWide Try.prog w r b0 27 v)
    (h : DataW.Trod enc Try.prog w 0 (fun _ => true) true 27 v d p) : ∃ (x : Wnt) (y : WSl), v = .agg #[.int .i64 x.frm, .int .i64 x.too, .int .i64 x.bnd, .slice y.av y.nv y.cv, .slice y.an y.nn y.cn, .slice y.al y.nl y.cl, .slice y.ac y.nc y.cc] ∧ WArg w x y := by
  obtain ⟨v0, v1, v2, v3, v4, v5, v6, n, rfl, ⟨y0, g0⟩, ⟨y1, g1⟩, ⟨y2, g2⟩, ⟨y3, g3⟩, ⟨y4, g4⟩, ⟨y5, g5⟩, ⟨y6, g6⟩⟩ := open_agg7 Try.underlying27 (by kernel_rfl) (by kernel_rfl) hv h
  obtain ⟨a, e0, _, _⟩ := DataW.trod_int Try.underlying3 g0
  obtain ⟨b, e1, _, _⟩ := DataW.trod_int Try.underlying3 g1
  obtain ⟨c, e2, _, hc⟩ := DataW.trod_int Try.underlying3 g2
  obtain ⟨A3, n3, c3, l3, rfl, h3⟩ := open_larg g3
  obtain ⟨A4, n4, c4, l4, rfl, h4⟩ := open_larg g4
  obtain ⟨A5, n5, c5, l5, rfl, h5⟩ := open_larg g5
  obtain ⟨A6, n6, c6, l6, rfl, h6⟩ := open_larg g6
  simp only [List.cons.injEq, and_true] at e0 e1 e2
  subst e0 e1 e2
  exact ⟨⟨a, b, c, l3, l4, l5, l6⟩, ⟨A3, n3, c3, A4, n4, c4, A5, n5, c5, A6, n6, c6⟩, rfl, h3, h4, h5, h6, wf_i64 hc⟩
theorem has_any (A : Option Addr) (n c : Nat) (L : List Int) (v : Int) (w : World) (hr : RInt w w.heap.size A n L) (hn : n ≤ 1000000) : Calls Try.prog 35 #[.slice A n c, .int .i64 v] w fun e w' => e = .returned (.bool (decide (v ∈ L))) ∧ w = w' := by
  have HR := hid hr
  have hl := hr.1
  clear hr
  go_enter Try.func35, Try.ntmps35
  go_wp2_with fail
  go_loopw [5] (fun i wr => ∃ k : Nat, k ≤ n ∧ i = .int .i64 k ∧ wr = w ∧ Hid (v ∉ L.take k)) (fun i _ => n - (intOf i).toNat)
  case atStart => exact ⟨0, Nat.zero_le _, rfl, rfl, hid (by simp)⟩
  case round =>
    obtain ⟨k, hk, rfl, hww, HQ⟩ := hrel
    have hws := hww.symm
    subst hws
    clear hww
    by_cases hlt : k < n
    · obtain ⟨x, hx⟩ : ∃ x, L[k]? = some x := ⟨L[k]'(by omega), List.getElem?_eq_getElem _⟩
      obtain ⟨b, off, rfl, hb, hc⟩ := HR.out.2 (by omega)
      have c0 := hc k x hx
      have HM := hid (mem_take_succ (k := v) hx)
      have HL := hid (List.mem_of_getElem? hx)
      clear hc hx
      by_cases hxv : x = v
      · have u : (x == v) = true := by simpa using hxv
        have HV : Hid (decide (v ∈ L) = true) := by show _ = _; rw [← hxv]; exact decide_eq_true HL.out
        clear hxv
        go_wp2_with fail
        go_ret
        exact ⟨by rw [HV.out]; rfl, rfl⟩
      · have u : (x == v) = false := by simpa using hxv
        have HQ2 : Hid (v ∉ L.take (k + 1)) := fun h => (HM.out.1 h).elim HQ.out hxv
        clear hxv
        go_wp2_with fail
        go_roundw
        case rel => exact ⟨k + 1, by omega, by go_num, by first | rfl | trivial, HQ2.out⟩
        case measure => simp [intOf]; omega
    · obtain rfl : n = k := by omega
      have HV : Hid (decide (v ∈ L) = false) := by
        have := HQ.out
        rw [List.take_of_length_le (by omega)] at this
        exact decide_eq_false this
      go_wp2_with fail
      go_ret
      exact ⟨by rw [HV.out]; rfl, rfl⟩
end Go.Proofs.Ytabgbhkpeeibaaa
