/- sound.clone. -/
import Derived.Test.YthoblabimkfjpaaSuH
import Derived.Test.YthoblabimkfjpaaRuB
import Derived.Deep.DeepCutAuto
import Derived.Laws.CopyOwn
namespace Go.Proofs.Ythoblabimkfjpaa
open Go.RowKit
set_option maxHeartbeats 6400000
set_option maxRecDepth 100000
theorem load_rule {ops : Array Oper} {rest : List Oper} {o : Oper} {a : Act} {w : World} {Q : Exit → Act → World → Prop} {B : Nat} {r : Rul} {y : WSl} (h : RBox B r y w) (hgd : o.guard = none) (x : Operand) (ho : o.op = .load 58 x) (hx : a.eval x = .pointer (some ⟨B, 0, none⟩))
    (k : wpList Try.prog ops Q rest (a.put o.dst (.agg (rarr r y))) w) : wpList Try.prog ops Q (o :: rest) a w :=
  wpList_load_row hgd 58 x ho B hx 58 (rarr r y) (0, 0) _ h Try.underlying58 rfl (by kernel_rfl) k
/-- A list of numbers that a call made, in a block of its own, from lo on. -/
structure OwL (wx : World) (lo : Nat) (A : Option Addr) (n c : Nat) (L : List Int) : Prop where
  len : L.length = n
  cap : n ≤ c
  non : A = none → n = 0 ∧ c = 0
  row : 0 < n → ∃ b cur, A = some ⟨b, 0, none⟩ ∧ lo ≤ b ∧ wx.heap[b]? = some (.cells cur 3 (0, 0)) ∧ ∀ (i : Nat) (x : Int), L[i]? = some x → cur[i]? = some (.int .i64 x)
/-- Blocks of numbers stand. -/
theorem OwL.kept {wx wy : World} {lo n c : Nat} {A : Option Addr} {L : List Int} (h : OwL wx lo A n c L) (hk : ∀ b cur, lo ≤ b → wx.heap[b]? = some (.cells cur 3 (0, 0)) → wy.heap[b]? = some (.cells cur 3 (0, 0))) : OwL wy lo A n c L := by
  refine ⟨h.len, h.cap, h.non, fun hn => ?_⟩
  obtain ⟨b, cur, h1, h2, h3, h4⟩ := h.row hn
  exact ⟨b, cur, h1, h2, hk b cur h2 h3, h4⟩
theorem OwL.on {wx wy : World} {lo n c : Nat} {A : Option Addr} {L : List Int} (h : OwL wx lo A n c L) (hb : Below wx.heap.size wx wy) : OwL wy lo A n c L :=
  h.kept fun b _ _ h3 => (hb.block b (pst_lt h3)).trans h3
theorem OwL.set {wx : World} {lo n c : Nat} {A : Option Addr} {L : List Int} (h : OwL wx lo A n c L) {B j : Nat} {cs : Array Value} (hB : wx.heap[B]? = some (.cells cs 58 (0, 0))) (u : Value) : OwL (wx.setCell ⟨B, j, none⟩ u) lo A n c L :=
  h.kept fun b cur _ h3 => (heap_setCell_other wx _ b u (fun e => by
    have e' : b = B := e
    subst e'
    rw [h3] at hB
    simp at hB)).trans h3
theorem OwL.setRow {wx : World} {lo n c : Nat} {A : Option Addr} {L : List Int} (h : OwL wx lo A n c L) {B : Nat} {cs0 : Array Value} (hB : wx.heap[B]? = some (.cells cs0 58 (0, 0))) (cs : Array Value) : OwL (wx.setRow B cs) lo A n c L :=
  h.kept fun b cur _ h3 => (setRow_other wx B b cs (fun e => by
    subst e
    rw [h3] at hB
    simp at hB)).trans h3
theorem OwL.less {wx : World} {lo lo' n c : Nat} {A : Option Addr} {L : List Int} (h : OwL wx lo A n c L) (hl : lo' ≤ lo) : OwL wx lo' A n c L :=
  ⟨h.len, h.cap, h.non, fun hn => by obtain ⟨b, off, h1, h2, h3⟩ := h.row hn; exact ⟨b, off, h1, by omega, h3⟩⟩
theorem OwL.larg {wx : World} {lo n c : Nat} {A : Option Addr} {L : List Int} (h : OwL wx lo A n c L) (hm : n ≤ maxLen) (hr : ∀ x ∈ L, -9223372036854775808 ≤ x ∧ x ≤ 9223372036854775807) : LArg wx A n c L :=
  ⟨⟨h.len, fun hn => by
    obtain ⟨b, cur, h1, _, h3, h4⟩ := h.row hn
    refine ⟨b, 0, h1, pst_lt h3, fun i x hx => ?_⟩
    rw [cell_of_row _ _ _ _ _ _ h3, Nat.zero_add]
    exact h4 i x hx⟩, h.cap, h.non, hm, hr⟩
theorem owl_own {w : World} {base m : Nat} {v : Value} {l : List Int} (h : w.ownsRow base 3 1 v m (icells l)) (hl : l.length = m) : ∃ A cap, v = .slice A m cap ∧ OwL w base A m cap l := by
  rcases h.2 with ⟨rfl, rfl⟩ | ⟨g, cap, cur, rfl, h2, h3, h4, _, _, h7⟩
  · exact ⟨none, 0, rfl, hl, Nat.le_refl _, fun _ => ⟨rfl, rfl⟩, fun h => by omega⟩
  · refine ⟨some ⟨g, 0, none⟩, cap, rfl, hl, h4, fun hA => (by cases hA), fun _ => ⟨g, cur, rfl, h2, h3, fun i x hx => ?_⟩⟩
    have hi : (icells l)[i]? = some (.int .i64 x) := by unfold icells; rw [List.getElem?_map, hx]; rfl
    rw [← h7, Nat.mul_one, List.getElem?_take] at hi
    split at hi
    · simpa using hi
    · cases hi
theorem cloneL_any (A : Option Addr) (n c : Nat) (L : List Int) (w : World) (h : LArg w A n c L) (hn : n ≤ 1000) : Calls Try.prog 48 #[.slice A n c] w fun e w' => ∃ A' c', e = .returned (.slice A' n c') ∧ OwL w' w.heap.size A' n c' L ∧ Below w.heap.size w w' := by
  refine (cloneInts_any A n c L w h.row hn h.non).mono ?_
  rintro e w' ⟨v, rfl, ho, hb⟩
  have hl : L.length = n := h.row.1
  obtain ⟨A', c', rfl, hw⟩ := owl_own ho rfl
  rw [hl] at hw
  exact ⟨A', c', by rw [hl], hw, hb⟩
/-- Beside: what has been copied so far; the box of the copy (block B), the result's (B + 1). -/
structure ClSt (w : World) (r : Rul) (y : WSl) (wx : World) : Prop where
  base : Below w.heap.size w wx
  box : RBox w.heap.size r y wx
  out : RBox (w.heap.size + 1) noRul noWSl wx
theorem ClSt.on {w wx wy : World} {r : Rul} {y : WSl} (h : ClSt w r y wx) (hb : Below wx.heap.size wx wy) : ClSt w r y wy :=
  ⟨h.base.trans (hb.mono h.base.size), box_below h.box hb (pst_lt h.box), box_below h.out hb (pst_lt h.out)⟩
theorem ClSt.put {w wx : World} {r r' : Rul} {y y' : WSl} (h : ClSt w r y wx) {j : Nat} {u : Value} (hj : (rarr r y).setIfInBounds j u = rarr r' y') : ClSt w r' y' (wx.setCell ⟨w.heap.size, j, none⟩ u) := by
  refine ⟨h.base.setCell (Nat.le_refl _) _, ?_, ?_⟩
  · have := heap_setCell_same wx w.heap.size j _ _ u h.box
    rw [hj] at this
    exact this
  · exact (heap_setCell_other wx _ _ u (by show w.heap.size + 1 ≠ w.heap.size; omega)).trans h.out
/-- The four lists of a rule that a call copied. -/
structure OwW (wx : World) (lo : Nat) (q : Rul × WSl) : Prop where
  via : OwL wx lo q.2.av q.2.nv q.2.cv q.1.x.via
  nds : OwL wx lo q.2.an q.2.nn q.2.cn q.1.x.nds
  lks : OwL wx lo q.2.al q.2.nl q.2.cl q.1.x.lks
  cls : OwL wx lo q.2.ac q.2.nc q.2.cc q.1.x.cls
theorem OwW.kept {wx wy : World} {lo : Nat} {q : Rul × WSl} (h : OwW wx lo q) (hk : ∀ b cur, lo ≤ b → wx.heap[b]? = some (.cells cur 3 (0, 0)) → wy.heap[b]? = some (.cells cur 3 (0, 0))) : OwW wy lo q :=
  ⟨h.via.kept hk, h.nds.kept hk, h.lks.kept hk, h.cls.kept hk⟩
theorem OwW.on {wx wy : World} {lo : Nat} {q : Rul × WSl} (h : OwW wx lo q) (hb : Below wx.heap.size wx wy) : OwW wy lo q := ⟨h.via.on hb, h.nds.on hb, h.lks.on hb, h.cls.on hb⟩
theorem OwW.less {wx : World} {lo lo' : Nat} {q : Rul × WSl} (h : OwW wx lo q) (hl : lo' ≤ lo) : OwW wx lo' q := ⟨h.via.less hl, h.nds.less hl, h.lks.less hl, h.cls.less hl⟩
theorem OwW.warg {wx w : World} {lo : Nat} {r : Rul} {y y' : WSl} (h : OwW wx lo (r, y')) (hw : WArg w r.x y) (h1 : y'.nv = y.nv) (h2 : y'.nn = y.nn) (h3 : y'.nl = y.nl) (h4 : y'.nc = y.nc) : WArg wx r.x y' :=
  ⟨h.via.larg (h1 ▸ hw.via.max) hw.via.rng, h.nds.larg (h2 ▸ hw.nds.max) hw.nds.rng, h.lks.larg (h3 ▸ hw.lks.max) hw.lks.rng, h.cls.larg (h4 ▸ hw.cls.max) hw.cls.rng, hw.rng⟩
theorem clone_any (r : Rul) (y : WSl) (w : World) (hw : WArg w r.x y) (hn : r.name.length ≤ 100) (hl : y.nv ≤ 100 ∧ y.nn ≤ 100 ∧ y.nl ≤ 100 ∧ y.nc ≤ 100) :
    Calls Try.prog 33 #[.agg (rarr r y)] w fun e w' => ∃ y', e = .returned (.agg (rarr r y')) ∧ (y'.nv = y.nv ∧ y'.nn = y.nn ∧ y'.nl = y.nl ∧ y'.nc = y.nc) ∧ OwW w' w.heap.size (r, y') ∧ Below w.heap.size w w' := by
  have HW := hid hw
  have HC := hid (fun W => cloneStr_any r.name W (by omega))
  have L1 := hid (fun W (h : LArg W y.av y.nv y.cv r.x.via) => cloneL_any y.av y.nv y.cv r.x.via W h (by omega))
  have L2 := hid (fun W (h : LArg W y.an y.nn y.cn r.x.nds) => cloneL_any y.an y.nn y.cn r.x.nds W h (by omega))
  have L3 := hid (fun W (h : LArg W y.al y.nl y.cl r.x.lks) => cloneL_any y.al y.nl y.cl r.x.lks W h (by omega))
  have L4 := hid (fun W (h : LArg W y.ac y.nc y.cc r.x.cls) => cloneL_any y.ac y.nc y.cc r.x.cls W h (by omega))
  have S0 := hid (show ClSt w r y ((w.alloc (.cells #[.string (txt r.name), .int .i64 r.pri, .int .u32 (r.m.sa : Int), .int .i64 r.m.sl, .int .u32 (r.m.da : Int), .int .i64 r.m.dl, .int .i64 r.m.pr, .int .i64 r.m.sp, .int .i64 r.m.dp, .int .i64 r.x.frm, .int .i64 r.x.too, .int .i64 r.x.bnd, .slice y.av y.nv y.cv, .slice y.an y.nn y.cn, .slice y.al y.nl y.cl, .slice y.ac y.nc y.cc, .bool r.strict] 58)).alloc (.cells #[.string ⟨#[]⟩, .int .i64 0, .int .u32 0, .int .i64 0, .int .u32 0, .int .i64 0, .int .i64 0, .int .i64 0, .int .i64 0, .int .i64 0, .int .i64 0, .int .i64 0, .slice none 0 0, .slice none 0 0, .slice none 0 0, .slice none 0 0, .bool false] 58)) from by
    refine ⟨((Below.refl _ _).alloc (Nat.le_refl _) _).alloc (by simp) _, ?_, ?_⟩
    · have h1 : RBox w.heap.size r y (w.alloc (.cells #[.string (txt r.name), .int .i64 r.pri, .int .u32 (r.m.sa : Int), .int .i64 r.m.sl, .int .u32 (r.m.da : Int), .int .i64 r.m.dl, .int .i64 r.m.pr, .int .i64 r.m.sp, .int .i64 r.m.dp, .int .i64 r.x.frm, .int .i64 r.x.too, .int .i64 r.x.bnd, .slice y.av y.nv y.cv, .slice y.an y.nn y.cn, .slice y.al y.nl y.cl, .slice y.ac y.nc y.cc, .bool r.strict] 58)) := heap_alloc_new w _
      exact box_below h1 (Below.alloc (Below.refl _ _) (Nat.le_refl _) _) (pst_lt h1)
    · have := heap_alloc_new (w.alloc (.cells #[.string (txt r.name), .int .i64 r.pri, .int .u32 (r.m.sa : Int), .int .i64 r.m.sl, .int .u32 (r.m.da : Int), .int .i64 r.m.dl, .int .i64 r.m.pr, .int .i64 r.m.sp, .int .i64 r.m.dp, .int .i64 r.x.frm, .int .i64 r.x.too, .int .i64 r.x.bnd, .slice y.av y.nv y.cv, .slice y.an y.nn y.cn, .slice y.al y.nl y.cl, .slice y.ac y.nc y.cc, .bool r.strict] 58)) (.cells #[.string ⟨#[]⟩, .int .i64 0, .int .u32 0, .int .i64 0, .int .u32 0, .int .i64 0, .int .i64 0, .int .i64 0, .int .i64 0, .int .i64 0, .int .i64 0, .int .i64 0, .slice none 0 0, .slice none 0 0, .slice none 0 0, .slice none 0 0, .bool false] 58)
      rw [show (w.alloc (.cells #[.string (txt r.name), .int .i64 r.pri, .int .u32 (r.m.sa : Int), .int .i64 r.m.sl, .int .u32 (r.m.da : Int), .int .i64 r.m.dl, .int .i64 r.m.pr, .int .i64 r.m.sp, .int .i64 r.m.dp, .int .i64 r.x.frm, .int .i64 r.x.too, .int .i64 r.x.bnd, .slice y.av y.nv y.cv, .slice y.an y.nn y.cn, .slice y.al y.nl y.cl, .slice y.ac y.nc y.cc, .bool r.strict] 58)).heap.size = w.heap.size + 1 by simp] at this
      exact this)
  clear hw hl hn
  obtain ⟨q, hq⟩ : ∃ q, w.heap.size = q := ⟨_, rfl⟩
  have HQ := hid hq
  show Calls Try.prog 33 #[.agg (rarr r y)] w _
  unfold rarr
  go_enter Try.func33, Try.ntmps33
  go_upto_region 1 with fail
  obtain ⟨w1, hw1⟩ : ∃ w1, ((w.alloc (.cells #[.string (txt r.name), .int .i64 r.pri, .int .u32 (r.m.sa : Int), .int .i64 r.m.sl, .int .u32 (r.m.da : Int), .int .i64 r.m.dl, .int .i64 r.m.pr, .int .i64 r.m.sp, .int .i64 r.m.dp, .int .i64 r.x.frm, .int .i64 r.x.too, .int .i64 r.x.bnd, .slice y.av y.nv y.cv, .slice y.an y.nn y.cn, .slice y.al y.nl y.cl, .slice y.ac y.nc y.cc, .bool r.strict] 58)).alloc (.cells #[.string ⟨#[]⟩, .int .i64 0, .int .u32 0, .int .i64 0, .int .u32 0, .int .i64 0, .int .i64 0, .int .i64 0, .int .i64 0, .int .i64 0, .int .i64 0, .int .i64 0, .slice none 0 0, .slice none 0 0, .slice none 0 0, .slice none 0 0, .bool false] 58)) = w1 := ⟨_, rfl⟩
  simp only [hw1]
  rw [hw1] at S0
  clear hw1
  have HS0 := S0
  clear S0
  have z0 := rbox_cell HS0.out.box 0 (v := .string (txt r.name)) rfl
  rw [hq] at z0
  go_upto_region 2 with (first | (go_at_call 47; (with_reducible refine (HC.out _).mono ?_); rintro e1 w2 ⟨rfl, hb⟩; have HS1 := hid (HS0.out.on hb); have z1 := rbox_cell HS1.out.box 0 (v := .string (txt r.name)) rfl; have f1 := frozen_of_row _ _ 0 _ _ HS1.out.box; rw [hq] at z1 f1; clear hb))
  have HS2 := hid (HS1.out.put (r' := r) (y' := y) (j := 0) (u := .string (txt r.name)) rfl)
  rw [hq] at HS2
  obtain ⟨w3, hw3⟩ : ∃ w3, w2.setCell ⟨q, 0, none⟩ (.string (txt r.name)) = w3 := ⟨_, rfl⟩
  simp only [hw3]
  rw [hw3] at HS2
  clear z0 z1 f1 hw3
  have z0 := rbox_cell HS2.out.box 12 (v := .slice y.av y.nv y.cv) rfl
  rw [hq] at z0
  have HA := hid (HW.out.via.on HS2.out.base)
  go_upto_region 3 with (first | (go_at_call 48; (with_reducible refine (L1.out _ HA.out).mono ?_); rintro e1 wa0 ⟨A0, c0, rfl, ho, hb⟩; have HT0 := hid (HS2.out.on hb); have z1 := rbox_cell HT0.out.box 12 (v := .slice y.av y.nv y.cv) rfl; have f1 := frozen_of_row _ _ 12 _ _ HT0.out.box; have O0a := hid (ho.less (show w.heap.size ≤ _ from HS2.out.base.size)); rw [hq] at z1 f1; clear ho hb))
  have HU0 := hid (HT0.out.put (r' := r) (y' := { y with av := A0, cv := c0 }) (j := 12) (u := .slice A0 y.nv c0) rfl)
  have O0y := hid (O0a.out.set (j := 12) HT0.out.box (.slice A0 y.nv c0))
  rw [hq] at HU0 O0y
  obtain ⟨wb0, hwn⟩ : ∃ x, wa0.setCell ⟨q, 12, none⟩ (.slice A0 y.nv c0) = x := ⟨_, rfl⟩
  simp only [hwn]
  rw [hwn] at HU0 O0y
  clear z0 z1 f1 hwn HA O0a
  have O0x := O0y
  clear O0y
  have z0 := rbox_cell HU0.out.box 13 (v := .slice y.an y.nn y.cn) rfl
  rw [hq] at z0
  have HA := hid (HW.out.nds.on HU0.out.base)
  go_upto_region 4 with (first | (go_at_call 48; (with_reducible refine (L2.out _ HA.out).mono ?_); rintro e1 wa1 ⟨A1, c1, rfl, ho, hb⟩; have HT1 := hid (HU0.out.on hb); have z1 := rbox_cell HT1.out.box 13 (v := .slice y.an y.nn y.cn) rfl; have f1 := frozen_of_row _ _ 13 _ _ HT1.out.box; have O0b1 := hid (O0x.out.on hb); have O1a := hid (ho.less (show w.heap.size ≤ _ from HU0.out.base.size)); rw [hq] at z1 f1; clear ho hb))
  have HU1 := hid (HT1.out.put (r' := r) (y' := { ({ y with av := A0, cv := c0 }) with an := A1, cn := c1 }) (j := 13) (u := .slice A1 y.nn c1) rfl)
  have O0y := hid (O0b1.out.set (j := 13) HT1.out.box (.slice A1 y.nn c1))
  have O1y := hid (O1a.out.set (j := 13) HT1.out.box (.slice A1 y.nn c1))
  rw [hq] at HU1 O0y O1y
  obtain ⟨wb1, hwn⟩ : ∃ x, wa1.setCell ⟨q, 13, none⟩ (.slice A1 y.nn c1) = x := ⟨_, rfl⟩
  simp only [hwn]
  rw [hwn] at HU1 O0y O1y
  clear z0 z1 f1 hwn HA O0x O0b1 O1a
  have O0x := O0y
  clear O0y
  have O1x := O1y
  clear O1y
  have z0 := rbox_cell HU1.out.box 14 (v := .slice y.al y.nl y.cl) rfl
  rw [hq] at z0
  have HA := hid (HW.out.lks.on HU1.out.base)
  go_upto_region 5 with (first | (go_at_call 48; (with_reducible refine (L3.out _ HA.out).mono ?_); rintro e1 wa2 ⟨A2, c2, rfl, ho, hb⟩; have HT2 := hid (HU1.out.on hb); have z1 := rbox_cell HT2.out.box 14 (v := .slice y.al y.nl y.cl) rfl; have f1 := frozen_of_row _ _ 14 _ _ HT2.out.box; have O0b2 := hid (O0x.out.on hb); have O1b2 := hid (O1x.out.on hb); have O2a := hid (ho.less (show w.heap.size ≤ _ from HU1.out.base.size)); rw [hq] at z1 f1; clear ho hb))
  have HU2 := hid (HT2.out.put (r' := r) (y' := { ({ ({ y with av := A0, cv := c0 }) with an := A1, cn := c1 }) with al := A2, cl := c2 }) (j := 14) (u := .slice A2 y.nl c2) rfl)
  have O0y := hid (O0b2.out.set (j := 14) HT2.out.box (.slice A2 y.nl c2))
  have O1y := hid (O1b2.out.set (j := 14) HT2.out.box (.slice A2 y.nl c2))
  have O2y := hid (O2a.out.set (j := 14) HT2.out.box (.slice A2 y.nl c2))
  rw [hq] at HU2 O0y O1y O2y
  obtain ⟨wb2, hwn⟩ : ∃ x, wa2.setCell ⟨q, 14, none⟩ (.slice A2 y.nl c2) = x := ⟨_, rfl⟩
  simp only [hwn]
  rw [hwn] at HU2 O0y O1y O2y
  clear z0 z1 f1 hwn HA O0x O0b2 O1x O1b2 O2a
  have O0x := O0y
  clear O0y
  have O1x := O1y
  clear O1y
  have O2x := O2y
  clear O2y
  have z0 := rbox_cell HU2.out.box 15 (v := .slice y.ac y.nc y.cc) rfl
  rw [hq] at z0
  have HA := hid (HW.out.cls.on HU2.out.base)
  go_upto_region 6 with (first | (go_at_call 48; (with_reducible refine (L4.out _ HA.out).mono ?_); rintro e1 wa3 ⟨A3, c3, rfl, ho, hb⟩; have HT3 := hid (HU2.out.on hb); have z1 := rbox_cell HT3.out.box 15 (v := .slice y.ac y.nc y.cc) rfl; have f1 := frozen_of_row _ _ 15 _ _ HT3.out.box; have O0b3 := hid (O0x.out.on hb); have O1b3 := hid (O1x.out.on hb); have O2b3 := hid (O2x.out.on hb); have O3a := hid (ho.less (show w.heap.size ≤ _ from HU2.out.base.size)); rw [hq] at z1 f1; clear ho hb))
  have HU3 := hid (HT3.out.put (r' := r) (y' := { ({ ({ ({ y with av := A0, cv := c0 }) with an := A1, cn := c1 }) with al := A2, cl := c2 }) with ac := A3, cc := c3 }) (j := 15) (u := .slice A3 y.nc c3) rfl)
  have O0y := hid (O0b3.out.set (j := 15) HT3.out.box (.slice A3 y.nc c3))
  have O1y := hid (O1b3.out.set (j := 15) HT3.out.box (.slice A3 y.nc c3))
  have O2y := hid (O2b3.out.set (j := 15) HT3.out.box (.slice A3 y.nc c3))
  have O3y := hid (O3a.out.set (j := 15) HT3.out.box (.slice A3 y.nc c3))
  rw [hq] at HU3 O0y O1y O2y O3y
  obtain ⟨wb3, hwn⟩ : ∃ x, wa3.setCell ⟨q, 15, none⟩ (.slice A3 y.nc c3) = x := ⟨_, rfl⟩
  simp only [hwn]
  rw [hwn] at HU3 O0y O1y O2y O3y
  clear z0 z1 f1 hwn HA O0x O0b3 O1x O1b3 O2x O2b3 O3a
  have O0x := O0y
  clear O0y
  have O1x := O1y
  clear O1y
  have O2x := O2y
  clear O2y
  have O3x := O3y
  clear O3y
  have HB := hid HU3.out.box
  have HO := hid HU3.out.out
  rw [hq] at HB HO
  go_wp2_with (first
    | (with_reducible refine load_rule HB.out rfl _ rfl (by go_simp) ?_)
    | (with_reducible refine store_rule (r := r) (y := { ({ ({ ({ y with av := A0, cv := c0 }) with an := A1, cn := c1 }) with al := A2, cl := c2 }) with ac := A3, cc := c3 }) HO.out rfl _ _ rfl (by go_simp) (by go_simp) ?_))
  have hg := setRow_heap wb3 (q + 1) _ (rarr r ({ ({ ({ ({ y with av := A0, cv := c0 }) with an := A1, cn := c1 }) with al := A2, cl := c2 }) with ac := A3, cc := c3 })) _ _ HO.out
  try simp only [Exit.inBlock, Exit.then]
  refine bodyPost_ret (results_cell_row (p := 2) (fn := Try.f33) rfl _ _ _ _ _ _ _ rfl hg Try.underlying58 rfl (by kernel_rfl)) rfl ?_
  refine ⟨_, rfl, ⟨rfl, rfl, rfl, rfl⟩, ⟨O0x.out.setRow HO.out _, O1x.out.setRow HO.out _, O2x.out.setRow HO.out _, O3x.out.setRow HO.out _⟩, ?_⟩
  have hb := below_setRow HU3.out.base (show w.heap.size ≤ q + 1 by rw [HQ.out]; exact Nat.le_succ _) (rarr r { av := A0, nv := y.nv, cv := c0, an := A1, nn := y.nn, cn := c1, al := A2, nl := y.nl, cl := c2, ac := A3, nc := y.nc, cc := c3 })
  rw [HQ.out] at hb
  exact hb
end Go.Proofs.Ythoblabimkfjpaa
