/- The reference's CheckRules. -/
import Derived.Test.YthoblabimkfjpaaSoB
import Derived.Test.YthoblabimkfjpaaPrB
import Derived.Test.YthoblabimkfjpaaRuB
namespace Go.Proofs.Ythoblabimkfjpaa
open Go.RowKit
set_option maxHeartbeats 12800000
set_option maxRecDepth 100000
def badM (r : Rul) : Bool := decide (r.pri < 0) || decide (r.m.pr < 0) || decide (255 < r.m.pr) || decide (r.m.sp < 0) || decide (65535 < r.m.sp) || decide (r.m.dp < 0) || decide (65535 < r.m.dp) || decide (r.m.sl < 0) || decide (32 < r.m.sl) || decide (r.m.dl < 0) || decide (32 < r.m.dl)
def twiceB (pre : List Rul) (r : Rul) : Bool := pre.any fun q => decide (q.name = r.name)
def rulE (nd : Int) (l : List Lnk) (pre : List Rul) (r : Rul) : Int :=
  if twiceB pre r = true ∨ wordS r.name = false then 3 else if rightS nd l r.x ≠ 0 then rightS nd l r.x else if badM r = true then 1 else 0
def goC (nd : Int) (l : List Lnk) : List Rul → List Rul → Int × Int
  | _, [] => (-1, 0)
  | pre, r :: rest => if rulE nd l pre r ≠ 0 then ((pre.length : Int), rulE nd l pre r) else goC nd l (pre ++ [r]) rest
/-- What CheckRules tells. -/
def checkRS (nd : Int) (l : List Lnk) (rs : List Rul) : Int × Int := if (checkS nd l).2 ≠ 0 then (-1, (checkS nd l).2) else goC nd l [] rs
theorem goC_on {nd : Int} {l : List Lnk} {rs : List Rul} {i : Nat} {r : Rul} (h : rs[i]? = some r) : goC nd l (rs.take i) (rs.drop i) = if rulE nd l (rs.take i) r ≠ 0 then ((i : Int), rulE nd l (rs.take i) r) else goC nd l (rs.take (i + 1)) (rs.drop (i + 1)) := by
  obtain ⟨hi, hx⟩ := List.getElem?_eq_some_iff.1 h
  rw [List.drop_eq_getElem_cons hi, hx]
  show (if rulE nd l (rs.take i) r ≠ 0 then (((rs.take i).length : Int), rulE nd l (rs.take i) r) else goC nd l (rs.take i ++ [r]) (rs.drop (i + 1))) = _
  rw [List.length_take, show min i rs.length = i by omega, show rs.take i ++ [r] = rs.take (i + 1) by rw [List.take_add_one, h]; rfl]
theorem bad_cases {r : Rul} (h : badM r = true) :
    (decide (r.pri < 0) = true) ∨ (decide (r.pri < 0) = false ∧ decide (r.m.pr < 0) = true) ∨ (decide (r.pri < 0) = false ∧ decide (r.m.pr < 0) = false ∧ decide (255 < r.m.pr) = true) ∨ (decide (r.pri < 0) = false ∧ decide (r.m.pr < 0) = false ∧ decide (255 < r.m.pr) = false ∧ decide (r.m.sp < 0) = true) ∨ (decide (r.pri < 0) = false ∧ decide (r.m.pr < 0) = false ∧ decide (255 < r.m.pr) = false ∧ decide (r.m.sp < 0) = false ∧ decide (65535 < r.m.sp) = true) ∨ (decide (r.pri < 0) = false ∧ decide (r.m.pr < 0) = false ∧ decide (255 < r.m.pr) = false ∧ decide (r.m.sp < 0) = false ∧ decide (65535 < r.m.sp) = false ∧ decide (r.m.dp < 0) = true) ∨ (decide (r.pri < 0) = false ∧ decide (r.m.pr < 0) = false ∧ decide (255 < r.m.pr) = false ∧ decide (r.m.sp < 0) = false ∧ decide (65535 < r.m.sp) = false ∧ decide (r.m.dp < 0) = false ∧ decide (65535 < r.m.dp) = true) ∨ (decide (r.pri < 0) = false ∧ decide (r.m.pr < 0) = false ∧ decide (255 < r.m.pr) = false ∧ decide (r.m.sp < 0) = false ∧ decide (65535 < r.m.sp) = false ∧ decide (r.m.dp < 0) = false ∧ decide (65535 < r.m.dp) = false ∧ decide (r.m.sl < 0) = true) ∨ (decide (r.pri < 0) = false ∧ decide (r.m.pr < 0) = false ∧ decide (255 < r.m.pr) = false ∧ decide (r.m.sp < 0) = false ∧ decide (65535 < r.m.sp) = false ∧ decide (r.m.dp < 0) = false ∧ decide (65535 < r.m.dp) = false ∧ decide (r.m.sl < 0) = false ∧ decide (32 < r.m.sl) = true) ∨ (decide (r.pri < 0) = false ∧ decide (r.m.pr < 0) = false ∧ decide (255 < r.m.pr) = false ∧ decide (r.m.sp < 0) = false ∧ decide (65535 < r.m.sp) = false ∧ decide (r.m.dp < 0) = false ∧ decide (65535 < r.m.dp) = false ∧ decide (r.m.sl < 0) = false ∧ decide (32 < r.m.sl) = false ∧ decide (r.m.dl < 0) = true) ∨ (decide (r.pri < 0) = false ∧ decide (r.m.pr < 0) = false ∧ decide (255 < r.m.pr) = false ∧ decide (r.m.sp < 0) = false ∧ decide (65535 < r.m.sp) = false ∧ decide (r.m.dp < 0) = false ∧ decide (65535 < r.m.dp) = false ∧ decide (r.m.sl < 0) = false ∧ decide (32 < r.m.sl) = false ∧ decide (r.m.dl < 0) = false ∧ decide (32 < r.m.dl) = true) := by
  cases e0 : decide (r.pri < 0) with
  | true => exact .inl rfl
  | false =>
  cases e1 : decide (r.m.pr < 0) with
  | true => exact .inr <| .inl ⟨rfl, rfl⟩
  | false =>
  cases e2 : decide (255 < r.m.pr) with
  | true => exact .inr <| .inr <| .inl ⟨rfl, rfl, rfl⟩
  | false =>
  cases e3 : decide (r.m.sp < 0) with
  | true => exact .inr <| .inr <| .inr <| .inl ⟨rfl, rfl, rfl, rfl⟩
  | false =>
  cases e4 : decide (65535 < r.m.sp) with
  | true => exact .inr <| .inr <| .inr <| .inr <| .inl ⟨rfl, rfl, rfl, rfl, rfl⟩
  | false =>
  cases e5 : decide (r.m.dp < 0) with
  | true => exact .inr <| .inr <| .inr <| .inr <| .inr <| .inl ⟨rfl, rfl, rfl, rfl, rfl, rfl⟩
  | false =>
  cases e6 : decide (65535 < r.m.dp) with
  | true => exact .inr <| .inr <| .inr <| .inr <| .inr <| .inr <| .inl ⟨rfl, rfl, rfl, rfl, rfl, rfl, rfl⟩
  | false =>
  cases e7 : decide (r.m.sl < 0) with
  | true => exact .inr <| .inr <| .inr <| .inr <| .inr <| .inr <| .inr <| .inl ⟨rfl, rfl, rfl, rfl, rfl, rfl, rfl, rfl⟩
  | false =>
  cases e8 : decide (32 < r.m.sl) with
  | true => exact .inr <| .inr <| .inr <| .inr <| .inr <| .inr <| .inr <| .inr <| .inl ⟨rfl, rfl, rfl, rfl, rfl, rfl, rfl, rfl, rfl⟩
  | false =>
  cases e9 : decide (r.m.dl < 0) with
  | true => exact .inr <| .inr <| .inr <| .inr <| .inr <| .inr <| .inr <| .inr <| .inr <| .inl ⟨rfl, rfl, rfl, rfl, rfl, rfl, rfl, rfl, rfl, rfl⟩
  | false =>
  cases e10 : decide (32 < r.m.dl) with
  | true => exact .inr <| .inr <| .inr <| .inr <| .inr <| .inr <| .inr <| .inr <| .inr <| .inr <| ⟨rfl, rfl, rfl, rfl, rfl, rfl, rfl, rfl, rfl, rfl, rfl⟩
  | false =>
  unfold badM at h
  rw [e0, e1, e2, e3, e4, e5, e6, e7, e8, e9, e10] at h
  cases h
theorem bad_none {r : Rul} (h : badM r = false) : decide (r.pri < 0) = false ∧ decide (r.m.pr < 0) = false ∧ decide (255 < r.m.pr) = false ∧ decide (r.m.sp < 0) = false ∧ decide (65535 < r.m.sp) = false ∧ decide (r.m.dp < 0) = false ∧ decide (65535 < r.m.dp) = false ∧ decide (r.m.sl < 0) = false ∧ decide (32 < r.m.sl) = false ∧ decide (r.m.dl < 0) = false ∧ decide (32 < r.m.dl) = false := by
  unfold badM at h
  simp only [Bool.or_eq_false_iff] at h
  exact ⟨h.1.1.1.1.1.1.1.1.1.1, h.1.1.1.1.1.1.1.1.1.2, h.1.1.1.1.1.1.1.1.2, h.1.1.1.1.1.1.1.2, h.1.1.1.1.1.1.2, h.1.1.1.1.1.2, h.1.1.1.1.2, h.1.1.1.2, h.1.1.2, h.1.2, h.2⟩
/-- The graph's box and a rule's. -/
structure CSt (w : World) (nd : Int) (A : Option Addr) (n c BS : Nat) (r : Rul) (y : WSl) (wx : World) : Prop where
  held : Held w nd A n c wx
  box : RBox BS r y wx
theorem CSt.on {w : World} {nd : Int} {A : Option Addr} {n c BS : Nat} {r : Rul} {y : WSl} {wx wy : World} (h : CSt w nd A n c BS r y wx) (hb : Below wx.heap.size wx wy) : CSt w nd A n c BS r y wy := ⟨h.held.next hb, box_below h.box hb (pst_lt h.box)⟩
theorem CSt.drewN {w : World} {nd : Int} {A : Option Addr} {n c BS : Nat} {r : Rul} {y : WSl} {wx : World} (h : CSt w nd A n c BS r y wx) (k : Nat) : CSt w nd A n c BS r y (wx.drewN k) := h.on (below_drewN (Below.refl _ _))
theorem refCheckRules_bad (nd : Int) (A : Option Addr) (n c : Nat) (l : List Lnk) (A2 : Option Addr) (n2 c2 : Nat) (w : World) (hr : RLnk w w.heap.size A n l) (h : (checkS nd l).2 ≠ 0) :
    Calls Try.prog 17 #[.agg #[.int .i64 nd, .slice A n c], .slice A2 n2 c2] w fun e w' => e = .returned (.tuple #[.int .i64 (-1), .int .i64 (checkS nd l).2]) ∧ Below w.heap.size w w' := by
  have hS := Held.start w nd A n c
  have HC := hid (hS.calls (refCheck_any nd A n c l _ (hS.on hr)))
  obtain ⟨a, e, hae⟩ : ∃ a e, checkS nd l = (a, e) := ⟨_, _, rfl⟩
  rw [hae] at HC h
  rw [hae]
  have t1 : (e != 0) = true := by simpa using h
  obtain ⟨g0, g1⟩ := hS.cells
  clear hr h hae
  go_enter Try.func17, Try.ntmps17
  go_wp2_with (go_at_call 29; (with_reducible refine HC.out.mono ?_); rintro e' w1 ⟨rfl, h1⟩)
  go_ret2
  exact ⟨rfl, h1.1⟩
theorem refCheckRules_in (nd : Int) (A : Option Addr) (n c : Nat) (l : List Lnk) (A2 : Option Addr) (n2 c2 : Nat) (qs : List (Rul × WSl)) (w : World) (hr : RLnk w w.heap.size A n l) (hq : RRul w A2 n2 c2 qs) (hn : n2 ≤ 1000) (hrng : ∀ q ∈ qs, RRng q.1) (hfew : ∀ q ∈ qs, q.2.nv ≤ 1000 ∧ q.2.nn ≤ 1000 ∧ q.2.nl ≤ 1000 ∧ q.2.nc ≤ 1000) (h : (checkS nd l).2 = 0) :
    Calls Try.prog 17 #[.agg #[.int .i64 nd, .slice A n c], .slice A2 n2 c2] w fun e w' => e = .returned (.tuple #[.int .i64 (goC nd l [] (qs.map (·.1))).1, .int .i64 (goC nd l [] (qs.map (·.1))).2]) ∧ Below w.heap.size w w' := by
  have hS := Held.start w nd A n c
  have HC := hid (hS.calls (refCheck_any nd A n c l _ (hS.on hr)))
  obtain ⟨a, e, hae⟩ : ∃ a e, checkS nd l = (a, e) := ⟨_, _, rfl⟩
  rw [hae] at HC h
  simp only at h
  subst h
  obtain ⟨g0, g1⟩ := hS.cells
  have HRt := hid (fun (x : Wnt) (y : WSl) (w' : World) (hh : Held w nd A n c w') (hw : WArg w' x y) (h1 : y.nv ≤ 1000 ∧ y.nn ≤ 1000 ∧ y.nl ≤ 1000 ∧ y.nc ≤ 1000) => right_any nd A n c l x y w' (hh.on hr) hw h1.1 h1.2.1 h1.2.2.1 h1.2.2.2)
  have HWd := hid (fun (s : List UInt8) (w' : World) (hs : s.length ≤ 9223372036854775807) => word_any s w' hs)
  have HH := hid hq
  have HRg := hid hrng
  have HFw := hid hfew
  have Hlen := hid hq.len
  obtain ⟨rs, hrs⟩ : ∃ rs, qs.map (·.1) = rs := ⟨_, rfl⟩
  obtain ⟨R, hR⟩ : ∃ R, goC nd l [] rs = R := ⟨_, rfl⟩
  rw [hrs, hR]
  have HR0 : Hid (goC nd l (rs.take 0) (rs.drop 0) = R) := hR
  have Hrs := hid hrs
  clear hr hq hrng hfew hae hrs hR
  go_enter Try.func17, Try.ntmps17
  go_wp2_with (go_at_call 29; (with_reducible refine HC.out.mono ?_); rintro e' w1 ⟨rfl, h1⟩)
  go_loopw [8, 9, 10, 11, 12, 13] (fun iv _ _ _ _ _ wr => ∃ i : Nat, i ≤ n2 ∧ iv = .int .i64 i ∧ Hid (goC nd l (rs.take i) (rs.drop i) = R) ∧ Hid (Held w nd A n c wr)) (fun iv _ _ _ _ _ _ => n2 - (intOf iv).toNat)
  case atStart => exact ⟨0, Nat.zero_le _, rfl, HR0, h1⟩
  case round =>
    obtain ⟨i, hi, rfl, HRi, HHe⟩ := hrel
    by_cases hlt : i < n2
    · obtain ⟨⟨r, y⟩, hq⟩ : ∃ q, qs[i]? = some q := ⟨qs[i]'(by rw [Hlen.out]; exact hlt), List.getElem?_eq_getElem _⟩
      have hRr := HH.out.on HHe.out.1
      obtain ⟨b, off, rfl, hbb, hc⟩ := hRr.row (by omega)
      have hwant := hRr.wants _ (List.mem_of_getElem? hq)
      have hrg := HRg.out _ (List.mem_of_getElem? hq)
      have hfw := HFw.out _ (List.mem_of_getElem? hq)
      simp only at hwant hrg hfw
      have z0 : wr.cell? ⟨b, off + i * 17, none⟩ = some (.string (txt r.name)) := hc i _ 0 _ hq rfl
      have z1 : wr.cell? ⟨b, off + i * 17 + 1, none⟩ = some (.int .i64 r.pri) := hc i _ 1 _ hq rfl
      have z2 : wr.cell? ⟨b, off + i * 17 + 2, none⟩ = some (.int .u32 (r.m.sa : Int)) := hc i _ 2 _ hq rfl
      have z3 : wr.cell? ⟨b, off + i * 17 + 3, none⟩ = some (.int .i64 r.m.sl) := hc i _ 3 _ hq rfl
      have z4 : wr.cell? ⟨b, off + i * 17 + 4, none⟩ = some (.int .u32 (r.m.da : Int)) := hc i _ 4 _ hq rfl
      have z5 : wr.cell? ⟨b, off + i * 17 + 5, none⟩ = some (.int .i64 r.m.dl) := hc i _ 5 _ hq rfl
      have z6 : wr.cell? ⟨b, off + i * 17 + 6, none⟩ = some (.int .i64 r.m.pr) := hc i _ 6 _ hq rfl
      have z7 : wr.cell? ⟨b, off + i * 17 + 7, none⟩ = some (.int .i64 r.m.sp) := hc i _ 7 _ hq rfl
      have z8 : wr.cell? ⟨b, off + i * 17 + 8, none⟩ = some (.int .i64 r.m.dp) := hc i _ 8 _ hq rfl
      have z9 : wr.cell? ⟨b, off + i * 17 + 9, none⟩ = some (.int .i64 r.x.frm) := hc i _ 9 _ hq rfl
      have z10 : wr.cell? ⟨b, off + i * 17 + 10, none⟩ = some (.int .i64 r.x.too) := hc i _ 10 _ hq rfl
      have z11 : wr.cell? ⟨b, off + i * 17 + 11, none⟩ = some (.int .i64 r.x.bnd) := hc i _ 11 _ hq rfl
      have z12 : wr.cell? ⟨b, off + i * 17 + 12, none⟩ = some (.slice y.av y.nv y.cv) := hc i _ 12 _ hq rfl
      have z13 : wr.cell? ⟨b, off + i * 17 + 13, none⟩ = some (.slice y.an y.nn y.cn) := hc i _ 13 _ hq rfl
      have z14 : wr.cell? ⟨b, off + i * 17 + 14, none⟩ = some (.slice y.al y.nl y.cl) := hc i _ 14 _ hq rfl
      have z15 : wr.cell? ⟨b, off + i * 17 + 15, none⟩ = some (.slice y.ac y.nc y.cc) := hc i _ 15 _ hq rfl
      have z16 : wr.cell? ⟨b, off + i * 17 + 16, none⟩ = some (.bool r.strict) := hc i _ 16 _ hq rfl
      have kl : (i : Int) < (n2 : Int) := by omega
      have hz : RBox wr.heap.size noRul noWSl (wr.alloc (.cells #[.string ⟨#[]⟩, .int .i64 0, .int .u32 0, .int .i64 0, .int .u32 0, .int .i64 0, .int .i64 0, .int .i64 0, .int .i64 0, .int .i64 0, .int .i64 0, .int .i64 0, .slice none 0 0, .slice none 0 0, .slice none 0 0, .slice none 0 0, .bool false] 58)) := heap_alloc_new wr _
      have HQ := hid hq
      have HW := hid hwant
      have Hrg := hid hrg
      have Hfw := hid hfw
      have HNm : Hid (∀ k, k < n2 → ∃ q, qs[k]? = some q ∧ ∀ wx, Below wr.heap.size wr wx → wx.cell? ⟨b, off + k * 17, none⟩ = some (.string (txt q.1.name))) := by
        intro k hk
        obtain ⟨q, hqk⟩ : ∃ q, qs[k]? = some q := ⟨qs[k]'(by rw [Hlen.out]; exact hk), List.getElem?_eq_getElem _⟩
        exact ⟨q, hqk, fun wx hb => (hb.cell (p := ⟨b, off + k * 17, none⟩) hbb).trans (hc k q 0 (.string (txt q.1.name)) hqk rfl)⟩
      clear hc hq hRr hwant hrg hfw
      go_upto_region 8 with (with_reducible refine store_rule_lit (r := r) (y := y) hz rfl _ _ rfl (by go_simp) (by go_simp) ?_)
      obtain ⟨w6, hw6⟩ : ∃ w6, (wr.alloc (.cells #[.string ⟨#[]⟩, .int .i64 0, .int .u32 0, .int .i64 0, .int .u32 0, .int .i64 0, .int .i64 0, .int .i64 0, .int .i64 0, .int .i64 0, .int .i64 0, .int .i64 0, .slice none 0 0, .slice none 0 0, .slice none 0 0, .slice none 0 0, .bool false] 58)).setRow wr.heap.size (rarr r y) = w6 := ⟨_, rfl⟩
      simp only [hw6, Act.put]
      rw [World.setRow_alloc_new] at hw6
      obtain ⟨BS, hBS⟩ : ∃ BS, wr.heap.size = BS := ⟨_, rfl⟩
      simp only [hBS]
      have HB6 := hid (show Below wr.heap.size wr w6 by rw [← hw6]; exact (Below.refl wr.heap.size wr).alloc (Nat.le_refl _) _)
      have HS6 := hid (show CSt w nd A n c BS r y w6 by
        rw [← hBS]
        exact ⟨HHe.out.next HB6.out, by rw [← hw6]; exact heap_alloc_new wr _⟩)
      have HW6 := hid (HW.out.on HB6.out)
      clear hw6 hBS hz HW z0 z1 z2 z3 z4 z5 z6 z7 z8 z9 z10 z11 z12 z13 z14 z15 z16
      have HTw0 : Hid (twiceB (rs.take 0) r = false) := rfl
      go_upto_region 10 with fail
      go_loopw [10, 11] (fun tv kv wx => ∃ (k : Nat) (tb : Bool), k ≤ i ∧ kv = .int .i64 k ∧ tv = .bool tb ∧ Hid (twiceB (rs.take k) r = tb) ∧ Hid (CSt w nd A n c BS r y wx) ∧ Hid (Below w6.heap.size w6 wx)) (fun _ kv _ => i - (intOf kv).toNat)
      case atStart => exact ⟨0, false, Nat.zero_le _, rfl, rfl, HTw0, HS6, Below.refl _ _⟩
      case round =>
        obtain ⟨k, tb, hk, rfl, rfl, HTb, HSx, HBx⟩ := hrel
        have x0 := rbox_cell HSx.out.box 0 (v := .string (txt r.name)) rfl
        by_cases hkl : k < i
        · obtain ⟨q, hqk, hcq⟩ := HNm.out k (by omega)
          have cq := hcq _ (HB6.out.trans (HBx.out.mono HB6.out.size))
          have kl2 : (k : Int) < (n2 : Int) := by omega
          obtain ⟨nm, hnm⟩ : ∃ nm, q.1.name = nm := ⟨_, rfl⟩
          rw [hnm] at cq
          have hrk : rs[k]? = some q.1 := by rw [← Hrs.out, List.getElem?_map, hqk]; rfl
          have HTs : Hid (twiceB (rs.take (k + 1)) r = (tb || decide (nm = r.name))) := by
            show _ = _
            have h5 := HTb.out
            unfold twiceB at h5 ⊢
            rw [List.take_add_one, hrk, List.any_append, h5]
            simp [hnm]
          clear hqk hcq hnm hrk
          cases tb with
          | true =>
            rw [Bool.true_or] at HTs
            go_wp2_with fail
            go_big_quiet (fail)
            go_wp2_with fail
            go_roundw
            case rel => exact ⟨k + 1, true, by omega, by go_num, rfl, HTs, HSx.out.drewN _, below_drewN HBx.out⟩
            case measure => simp [intOf]; omega
          | false =>
            rw [Bool.false_or] at HTs
            by_cases hne : nm = r.name
            · rw [decide_eq_true hne] at HTs
              have t4 : ((txt nm).toList == (txt r.name).toList) = true := by rw [hne]; simp
              have Hne := hid hne
              clear hne
              go_wp2_with fail
              go_big_quiet (fail)
              go_wp2_with fail
              go_roundw
              case rel => exact ⟨k + 1, true, by omega, by go_num, rfl, HTs, HSx.out.drewN _, below_drewN HBx.out⟩
              case measure => simp [intOf]; omega
            · rw [decide_eq_false hne] at HTs
              have t4 : ((txt nm).toList == (txt r.name).toList) = false := by rw [txt_list, txt_list]; simpa using hne
              have Hne := hid hne
              clear hne
              go_wp2_with fail
              go_big_quiet (fail)
              go_wp2_with fail
              go_roundw
              case rel => exact ⟨k + 1, false, by omega, by go_num, rfl, HTs, HSx.out.drewN _, below_drewN HBx.out⟩
              case measure => simp [intOf]; omega
        · obtain rfl : k = i := by omega
          have hrk : rs[k]? = some r := by rw [← Hrs.out, List.getElem?_map, HQ.out]; rfl
          have Hgo := hid ((goC_on (nd := nd) (l := l) hrk).symm.trans HRi.out)
          clear hrk hkl
          obtain ⟨v0, v1⟩ := HSx.out.held.cells
          cases tb with
          | true =>
            have HE : Hid (R = ((k : Int), 3)) := by
              have h5 : rulE nd l (rs.take k) r = 3 := by unfold rulE; rw [if_pos (.inl HTb.out)]
              have := Hgo.out
              rw [h5, if_pos (by decide)] at this
              exact this.symm
            go_wp2_with fail
            go_ret2
            exact ⟨by rw [HE.out]; rfl, HSx.out.held.1⟩
          | false =>
            obtain ⟨wb, hwb⟩ : ∃ wb, wordS r.name = wb := ⟨_, rfl⟩
            have HWn := hid (fun (W : World) => hwb ▸ HWd.out r.name W Hrg.out.name)
            cases wb with
            | false =>
              have HE : Hid (R = ((k : Int), 3)) := by
                have h5 : rulE nd l (rs.take k) r = 3 := by unfold rulE; rw [if_pos (.inr hwb)]
                have := Hgo.out
                rw [h5, if_pos (by decide)] at this
                exact this.symm
              clear hwb
              go_wp2_with (first
                | (go_at_call 30; (with_reducible refine (HWn.out _).mono ?_); rintro e' w8 ⟨rfl, hb8⟩))
              go_ret2
              exact ⟨by rw [HE.out]; rfl, (HSx.out.held.next hb8).1⟩
            | true =>
              obtain ⟨f, hf⟩ : ∃ f, rightS nd l r.x = f := ⟨_, rfl⟩
              have HRw := hid (fun (w' : World) (hh : Held w nd A n c w') (hw : WArg w' r.x y) => hf ▸ HRt.out r.x y w' hh hw Hfw.out)
              have HWx := hid (HW6.out.on HBx.out)
              have Hru : Hid (rulE nd l (rs.take k) r = if f ≠ 0 then f else if badM r = true then 1 else 0) := by
                show _ = _
                unfold rulE
                rw [if_neg (by rw [HTb.out, hwb]; simp), hf]
              clear hwb hf
              by_cases hf0 : f = 0
              · subst hf0
                have t5 : ((0 : Int) != 0) = false := rfl
                cases hbad : badM r with
                | true =>
                  have HE : Hid (R = ((k : Int), 1)) := by
                    have h5 := Hru.out
                    rw [if_neg (by decide), hbad, if_pos rfl] at h5
                    have := Hgo.out
                    rw [h5, if_pos (by decide)] at this
                    exact this.symm
                  have hbc := bad_cases hbad
                  clear hbad Hru Hgo
                  rcases hbc with h | ⟨e0, h⟩ | ⟨e0, e1, h⟩ | ⟨e0, e1, e2, h⟩ | ⟨e0, e1, e2, e3, h⟩ | ⟨e0, e1, e2, e3, e4, h⟩ | ⟨e0, e1, e2, e3, e4, e5, h⟩ | ⟨e0, e1, e2, e3, e4, e5, e6, h⟩ | ⟨e0, e1, e2, e3, e4, e5, e6, e7, h⟩ | ⟨e0, e1, e2, e3, e4, e5, e6, e7, e8, h⟩ | ⟨e0, e1, e2, e3, e4, e5, e6, e7, e8, e9, h⟩ <;>
                  · go_wp2_with (first
                      | (go_at_call 30; (with_reducible refine (HWn.out _).mono ?_); rintro e' w8 ⟨rfl, hb8⟩; have s8 := HSx.out.on hb8; obtain ⟨y0, y1, y2, y3, y4, y5, y6, y7, y8, y9, y10, y11, y12, y13, y14, y15, y16⟩ := rbox_cells s8.box; obtain ⟨u0, u1⟩ := s8.held.cells; have HS8 := hid s8; have HW8 := hid (HWx.out.on hb8); clear s8)
                      | (go_at_call 31; (with_reducible refine (HRw.out _ HS8.out.held HW8.out).mono ?_); rintro e' w9 ⟨rfl, hb9⟩; have s9 := HS8.out.on hb9; obtain ⟨p0, p1, p2, p3, p4, p5, p6, p7, p8, p9, p10, p11, p12, p13, p14, p15, p16⟩ := rbox_cells s9.box; have s10 := s9.on ((Below.refl _ _).alloc (Nat.le_refl _) (.cells #[.int .u32 (r.m.sa : Int), .int .i64 r.m.sl, .int .u32 (r.m.da : Int), .int .i64 r.m.dl, .int .i64 r.m.pr, .int .i64 r.m.sp, .int .i64 r.m.dp] 56)); have p1' := rbox_cell s10.box 1 (v := .int .i64 r.pri) rfl; have HS9 := hid s9; have HS10 := hid s10; clear s9 s10))
                    go_ret2
                    exact ⟨by rw [HE.out]; rfl, HS10.out.held.1⟩
                | false =>
                  have HE : Hid (goC nd l (rs.take (k + 1)) (rs.drop (k + 1)) = R) := by
                    have h5 := Hru.out
                    rw [if_neg (by decide), hbad, if_neg (by decide)] at h5
                    have := Hgo.out
                    rw [h5, if_neg (by decide)] at this
                    exact this
                  obtain ⟨e0, e1, e2, e3, e4, e5, e6, e7, e8, e9, e10⟩ := bad_none hbad
                  clear hbad Hru Hgo
                  go_wp2_with (first
                    | (go_at_call 30; (with_reducible refine (HWn.out _).mono ?_); rintro e' w8 ⟨rfl, hb8⟩; have s8 := HSx.out.on hb8; obtain ⟨y0, y1, y2, y3, y4, y5, y6, y7, y8, y9, y10, y11, y12, y13, y14, y15, y16⟩ := rbox_cells s8.box; obtain ⟨u0, u1⟩ := s8.held.cells; have HS8 := hid s8; have HW8 := hid (HWx.out.on hb8); clear s8)
                    | (go_at_call 31; (with_reducible refine (HRw.out _ HS8.out.held HW8.out).mono ?_); rintro e' w9 ⟨rfl, hb9⟩; have s9 := HS8.out.on hb9; obtain ⟨p0, p1, p2, p3, p4, p5, p6, p7, p8, p9, p10, p11, p12, p13, p14, p15, p16⟩ := rbox_cells s9.box; have s10 := s9.on ((Below.refl _ _).alloc (Nat.le_refl _) (.cells #[.int .u32 (r.m.sa : Int), .int .i64 r.m.sl, .int .u32 (r.m.da : Int), .int .i64 r.m.dl, .int .i64 r.m.pr, .int .i64 r.m.sp, .int .i64 r.m.dp] 56)); have p1' := rbox_cell s10.box 1 (v := .int .i64 r.pri) rfl; have HS9 := hid s9; have HS10 := hid s10; clear s9 s10))
                  go_roundw
                  case rel => exact ⟨k + 1, by omega, by go_num, HE, HS10.out.held⟩
                  case measure => simp [intOf]; omega
              · have t5 : (f != 0) = true := by simpa using hf0
                have HE : Hid (R = ((k : Int), f)) := by
                  have h5 := Hru.out
                  rw [if_pos hf0] at h5
                  have := Hgo.out
                  rw [h5, if_pos hf0] at this
                  exact this.symm
                clear hf0 Hru Hgo
                go_wp2_with (first
                  | (go_at_call 30; (with_reducible refine (HWn.out _).mono ?_); rintro e' w8 ⟨rfl, hb8⟩; have s8 := HSx.out.on hb8; obtain ⟨y0, y1, y2, y3, y4, y5, y6, y7, y8, y9, y10, y11, y12, y13, y14, y15, y16⟩ := rbox_cells s8.box; obtain ⟨u0, u1⟩ := s8.held.cells; have HS8 := hid s8; have HW8 := hid (HWx.out.on hb8); clear s8)
                  | (go_at_call 31; (with_reducible refine (HRw.out _ HS8.out.held HW8.out).mono ?_); rintro e' w9 ⟨rfl, hb9⟩; have HS9 := hid (HS8.out.on hb9)))
                go_ret2
                exact ⟨by rw [HE.out]; rfl, HS9.out.held.1⟩
    · obtain rfl : i = n2 := by omega
      have hRR : Hid (R = (-1, 0)) := by
        have h2 : rs.length = i := by rw [← Hrs.out, List.length_map, Hlen.out]
        have := HRi.out
        rw [List.drop_of_length_le (by omega)] at this
        exact this.symm
      go_wp2_with fail
      go_ret2
      exact ⟨by rw [hRR.out]; rfl, HHe.out.1⟩
theorem refCheckRules_any (nd : Int) (A : Option Addr) (n c : Nat) (l : List Lnk) (A2 : Option Addr) (n2 c2 : Nat) (qs : List (Rul × WSl)) (w : World) (hr : RLnk w w.heap.size A n l) (hq : RRul w A2 n2 c2 qs) (hn : n2 ≤ 1000) (hrng : ∀ q ∈ qs, RRng q.1) (hfew : ∀ q ∈ qs, q.2.nv ≤ 1000 ∧ q.2.nn ≤ 1000 ∧ q.2.nl ≤ 1000 ∧ q.2.nc ≤ 1000) :
    Calls Try.prog 17 #[.agg #[.int .i64 nd, .slice A n c], .slice A2 n2 c2] w fun e w' => e = .returned (.tuple #[.int .i64 (checkRS nd l (qs.map (·.1))).1, .int .i64 (checkRS nd l (qs.map (·.1))).2]) ∧ Below w.heap.size w w' := by
  by_cases h : (checkS nd l).2 = 0
  · have Q : checkRS nd l (qs.map (·.1)) = goC nd l [] (qs.map (·.1)) := by unfold checkRS; rw [if_neg (by omega)]
    rw [Q]
    exact refCheckRules_in nd A n c l A2 n2 c2 qs w hr hq hn hrng hfew h
  · have Q : checkRS nd l (qs.map (·.1)) = (-1, (checkS nd l).2) := by unfold checkRS; rw [if_pos h]
    rw [Q]
    exact refCheckRules_bad nd A n c l A2 n2 c2 w hr h
end Go.Proofs.Ythoblabimkfjpaa
