/- The reference's Show. -/
import Derived.Test.YtcmkcloapenpnaaGreatDoorPlI
import Derived.Deep.CutRange
namespace Go.Proofs.YtcmkcloapenpnaaGreatDoor
open Go.RowKit
set_option maxHeartbeats 6400000
set_option maxRecDepth 100000
def headR (r : Rul) : List UInt8 := [114, 117, 108, 101, 32] ++ r.name ++ [32] ++ decL r.pri.toNat ++ [32, 102, 114, 111, 109, 32] ++ decL r.x.frm.toNat ++ [32, 116, 111, 32] ++ decL r.x.too.toNat
def listR (r : Rul) : List UInt8 := showLs (wordL 0) r.x.via ++ showLs (wordL 1) r.x.nds ++ showLs (wordL 2) r.x.lks ++ showLs (wordL 3) r.x.cls ++ showN (wordL 4) r.x.bnd
def prefR (name : List UInt8) (a : Nat) (n : Int) : List UInt8 := if 0 < n then [32] ++ name ++ [32] ++ showS a n else []
def portR (r : Rul) : List UInt8 := showN (wordL 7) r.m.pr ++ showN (wordL 8) r.m.sp ++ showN (wordL 9) r.m.dp
/-- A rule, in a line of its own. -/
def showR (r : Rul) : List UInt8 := headR r ++ listR r ++ prefR (wordL 5) r.m.sa r.m.sl ++ prefR (wordL 6) r.m.da r.m.dl ++ portR r ++ (if r.strict then [32] ++ wordL 10 else []) ++ [59, 10]
/-- What Show tells. -/
def showAll (L : List Rul) : List UInt8 := L.flatMap showR
/-- A rule as a text has it, not too long. -/
structure Fair (r : Rul) : Prop where
  nums : NumOk r
  name : r.name.length ≤ 10000
  via : r.x.via.length ≤ 10001
  nds : r.x.nds.length ≤ 10001
  lks : r.x.lks.length ≤ 10001
  cls : r.x.cls.length ≤ 10001
theorem showN_len (name : List UInt8) (n : Int) (h : In31 n) : (showN name n).length ≤ name.length + 21 := by
  unfold showN
  split
  · simp
  · have := decL_short n.toNat (by unfold In31 at h; omega)
    simp only [List.length_append, List.length_cons, List.length_nil]
    omega
theorem showLs_len (name : List UInt8) (L : List Int) (h : ∀ v ∈ L, In31 v) : (showLs name L).length ≤ name.length + 1 + 20 * L.length := by
  unfold showLs
  split
  · simp
  · have := digs_len L h
    simp only [List.length_append, List.length_cons, List.length_nil]
    omega
theorem cut32_small (n : Int) : cut32 n < 10000 := by have := cut32_le n; omega
theorem showS_len (a : Nat) (n : Int) (h : a < 4294967296) : (showS a n).length ≤ 100 := by
  unfold showS
  have h0 := maskS_lt (n := cut32 n) h
  have h1 := decL_short (maskS a (cut32 n) / 16777216) (by omega)
  have h2 := decL_short (maskS a (cut32 n) / 65536 % 256) (by omega)
  have h3 := decL_short (maskS a (cut32 n) / 256 % 256) (by omega)
  have h4 := decL_short (maskS a (cut32 n) % 256) (by omega)
  have h5 := decL_short (cut32 n) (by have := cut32_small n; omega)
  simp only [List.length_append, List.length_cons, List.length_nil]
  omega
theorem src_lt {r : Rul} (h : NumOk r) : r.m.sa < 4294967296 ∧ r.m.da < 4294967296 := by
  obtain ⟨a, n, h1, _, h3, _⟩ := h.src
  obtain ⟨a', n', h1', _, h3', _⟩ := h.dst
  exact ⟨by rw [h3]; exact maskS_lt h1, by rw [h3']; exact maskS_lt h1'⟩
theorem dec_int (v : Int) (h : In31 v) (w : World) : Calls Tryz.prog 22 #[.int .i64 v] w fun e w' => e = .returned (.string (txt (decL v.toNat))) ∧ w = w' := by
  have := dec_any v.toNat (by unfold In31 at h; omega) w
  rwa [Int.toNat_of_nonneg h.1] at this
theorem dec31 {v : Int} (h : In31 v) : (decL v.toNat).length ≤ 19 := decL_short v.toNat (by unfold In31 at h; omega)
/-- Where a rule that is shown lies. -/
structure SSt (w : World) (BS : Nat) (r : Rul) (y : WSl) (wx : World) : Prop where
  bel : Below w.heap.size w wx
  box : RBox BS r y wx
theorem SSt.on {w : World} {BS : Nat} {r : Rul} {y : WSl} {wx wy : World} (h : SSt w BS r y wx) (hb : Below wx.heap.size wx wy) : SSt w BS r y wy := ⟨h.bel.trans (hb.mono h.bel.size), box_below h.box hb (pst_lt h.box)⟩
theorem store_rule_lit {ops : Array Oper} {rest : List Oper} {o : Oper} {a : Act} {w : World} {Q : Exit → Act → World → Prop} {B : Nat} {r0 r : Rul} {y0 y : WSl} (h : RBox B r0 y0 w) (hgd : o.guard = none) (x z : Operand) (ho : o.op = .store 42 x z) (hx : a.eval x = .pointer (some ⟨B, 0, none⟩))
    (hz : a.eval z = .agg #[.string (txt r.name), .int .i64 r.pri, .int .u32 (r.m.sa : Int), .int .i64 r.m.sl, .int .u32 (r.m.da : Int), .int .i64 r.m.dl, .int .i64 r.m.pr, .int .i64 r.m.sp, .int .i64 r.m.dp, .int .i64 r.x.frm, .int .i64 r.x.too, .int .i64 r.x.bnd, .slice y.av y.nv y.cv, .slice y.an y.nn y.cn, .slice y.al y.nl y.cl, .slice y.ac y.nc y.cc, .bool r.strict])
    (k : wpList Tryz.prog ops Q rest (a.put o.dst undef) (w.setRow B (rarr r y))) : wpList Tryz.prog ops Q (o :: rest) a w :=
  store_rule h hgd x z ho hx hz k
theorem pShow_any (A : Option Addr) (n c : Nat) (qs : List (Rul × WSl)) (w : World) (h : RRul w A n c qs) (hn : n ≤ 20) (hf : ∀ q ∈ qs, Fair q.1) :
    Calls Tryz.prog 10 #[.slice A n c] w fun e w' => e = .returned (.string (txt (showAll (qs.map (·.1))))) ∧ Below w.heap.size w w' := by
  obtain ⟨R, hR⟩ : ∃ R, showAll (qs.map (·.1)) = R := ⟨_, rfl⟩
  rw [hR]
  have HR := hid hR
  have HH := hid h
  have HF := hid hf
  have Hlen := hid h.len
  clear hR h hf
  go_enter Tryz.func10, Tryz.ntmps10
  go_wp2_with fail
  go_loopw [3, 4] (fun sv iv wr => ∃ (k : Nat) (x : List UInt8), k ≤ n ∧ iv = .int .i64 k ∧ sv = .string (txt x) ∧ Hid (x = showAll ((qs.take k).map (·.1))) ∧ x.length ≤ k * 1000000 ∧ Hid (Below w.heap.size w wr)) (fun _ iv _ => n - (intOf iv).toNat)
  case atStart => exact ⟨0, [], Nat.zero_le _, rfl, rfl, hid (by simp [showAll]), by simp, hid (Below.refl _ _)⟩
  case round =>
    obtain ⟨k, x, hk, rfl, rfl, HX, hxl, HBr⟩ := hrel
    by_cases hlt : k < n
    · obtain ⟨⟨r, y⟩, hq⟩ : ∃ q, qs[k]? = some q := ⟨qs[k]'(by rw [Hlen.out]; exact hlt), List.getElem?_eq_getElem _⟩
      have hRr := HH.out.on HBr.out
      obtain ⟨b, off, rfl, _, hc⟩ := hRr.row (by omega)
      have hfair := HF.out _ (List.mem_of_getElem? hq)
      have hwant := hRr.wants _ (List.mem_of_getElem? hq)
      simp only at hfair hwant
      have z0 : wr.cell? ⟨b, off + k * 17, none⟩ = some (.string (txt r.name)) := hc k _ 0 _ hq rfl
      have z1 : wr.cell? ⟨b, off + k * 17 + 1, none⟩ = some (.int .i64 r.pri) := hc k _ 1 _ hq rfl
      have z2 : wr.cell? ⟨b, off + k * 17 + 2, none⟩ = some (.int .u32 (r.m.sa : Int)) := hc k _ 2 _ hq rfl
      have z3 : wr.cell? ⟨b, off + k * 17 + 3, none⟩ = some (.int .i64 r.m.sl) := hc k _ 3 _ hq rfl
      have z4 : wr.cell? ⟨b, off + k * 17 + 4, none⟩ = some (.int .u32 (r.m.da : Int)) := hc k _ 4 _ hq rfl
      have z5 : wr.cell? ⟨b, off + k * 17 + 5, none⟩ = some (.int .i64 r.m.dl) := hc k _ 5 _ hq rfl
      have z6 : wr.cell? ⟨b, off + k * 17 + 6, none⟩ = some (.int .i64 r.m.pr) := hc k _ 6 _ hq rfl
      have z7 : wr.cell? ⟨b, off + k * 17 + 7, none⟩ = some (.int .i64 r.m.sp) := hc k _ 7 _ hq rfl
      have z8 : wr.cell? ⟨b, off + k * 17 + 8, none⟩ = some (.int .i64 r.m.dp) := hc k _ 8 _ hq rfl
      have z9 : wr.cell? ⟨b, off + k * 17 + 9, none⟩ = some (.int .i64 r.x.frm) := hc k _ 9 _ hq rfl
      have z10 : wr.cell? ⟨b, off + k * 17 + 10, none⟩ = some (.int .i64 r.x.too) := hc k _ 10 _ hq rfl
      have z11 : wr.cell? ⟨b, off + k * 17 + 11, none⟩ = some (.int .i64 r.x.bnd) := hc k _ 11 _ hq rfl
      have z12 : wr.cell? ⟨b, off + k * 17 + 12, none⟩ = some (.slice y.av y.nv y.cv) := hc k _ 12 _ hq rfl
      have z13 : wr.cell? ⟨b, off + k * 17 + 13, none⟩ = some (.slice y.an y.nn y.cn) := hc k _ 13 _ hq rfl
      have z14 : wr.cell? ⟨b, off + k * 17 + 14, none⟩ = some (.slice y.al y.nl y.cl) := hc k _ 14 _ hq rfl
      have z15 : wr.cell? ⟨b, off + k * 17 + 15, none⟩ = some (.slice y.ac y.nc y.cc) := hc k _ 15 _ hq rfl
      have z16 : wr.cell? ⟨b, off + k * 17 + 16, none⟩ = some (.bool r.strict) := hc k _ 16 _ hq rfl
      have kl : (k : Int) < (n : Int) := by omega
      have hz : RBox wr.heap.size noRul noWSl (wr.alloc (.cells #[.string ⟨#[]⟩, .int .i64 0, .int .u32 0, .int .i64 0, .int .u32 0, .int .i64 0, .int .i64 0, .int .i64 0, .int .i64 0, .int .i64 0, .int .i64 0, .int .i64 0, .slice none 0 0, .slice none 0 0, .slice none 0 0, .slice none 0 0, .bool false] 42)) := heap_alloc_new wr _
      have HQ := hid hq
      have HFa := hid hfair
      have HW := hid hwant
      have hn0 := hfair.name
      obtain ⟨sl1, sl2⟩ := src_lt hfair.nums
      clear hc hq hRr hfair hwant
      go_upto_region 6 with (with_reducible refine store_rule_lit (r := r) (y := y) hz rfl _ _ rfl (by go_simp) (by go_simp) ?_)
      obtain ⟨w6, hw6⟩ : ∃ w6, (wr.alloc (.cells #[.string ⟨#[]⟩, .int .i64 0, .int .u32 0, .int .i64 0, .int .u32 0, .int .i64 0, .int .i64 0, .int .i64 0, .int .i64 0, .int .i64 0, .int .i64 0, .int .i64 0, .slice none 0 0, .slice none 0 0, .slice none 0 0, .slice none 0 0, .bool false] 42)).setRow wr.heap.size (rarr r y) = w6 := ⟨_, rfl⟩
      simp only [hw6, Act.put]
      rw [World.setRow_alloc_new] at hw6
      obtain ⟨BS, hBS⟩ : ∃ BS, wr.heap.size = BS := ⟨_, rfl⟩
      simp only [hBS]
      have HS6 := hid (show SSt w BS r y w6 by
        rw [← hw6, ← hBS]
        exact ⟨HBr.out.trans (((Below.refl wr.heap.size wr).alloc (Nat.le_refl _) _).mono HBr.out.size), heap_alloc_new wr _⟩)
      have HW6 := hid (show WArg w6 r.x y by rw [← hw6]; exact HW.out.on ((Below.refl _ _).alloc (Nat.le_refl _) _))
      clear hw6 hBS hz HW z0 z1 z2 z3 z4 z5 z6 z7 z8 z9 z10 z11 z12 z13 z14 z15 z16
      obtain ⟨D1, eD1⟩ : ∃ D1, decL r.pri.toNat = D1 := ⟨_, rfl⟩
      have lD1 : D1.length ≤ 19 := by rw [← eD1]; exact dec31 HFa.out.nums.pri
      have ED1 := hid eD1
      obtain ⟨D2, eD2⟩ : ∃ D2, decL r.x.frm.toNat = D2 := ⟨_, rfl⟩
      have lD2 : D2.length ≤ 19 := by rw [← eD2]; exact dec31 HFa.out.nums.frm
      have ED2 := hid eD2
      obtain ⟨D3, eD3⟩ : ∃ D3, decL r.x.too.toNat = D3 := ⟨_, rfl⟩
      have lD3 : D3.length ≤ 19 := by rw [← eD3]; exact dec31 HFa.out.nums.too
      have ED3 := hid eD3
      have HD1 := hid (fun W => eD1 ▸ dec_int r.pri HFa.out.nums.pri W)
      have HD2 := hid (fun W => eD2 ▸ dec_int r.x.frm HFa.out.nums.frm W)
      have HD3 := hid (fun W => eD3 ▸ dec_int r.x.too HFa.out.nums.too W)
      clear eD1 eD2 eD3
      obtain ⟨a1, ha1⟩ : ∃ a1, x ++ [114, 117, 108, 101, 32] = a1 := ⟨_, rfl⟩
      have la1 : a1.length = x.length + 5 := by rw [← ha1]; simp
      have qa1 : ∀ W, (Op.stringOp .add (txt x) ⟨#[114, 117, 108, 101, 32]⟩).run Tryz.prog W = .ok (.string (txt a1)) W := fun W => ha1 ▸ run_cat x [114, 117, 108, 101, 32] (by simp; omega) W
      obtain ⟨a2, ha2⟩ : ∃ a2, a1 ++ r.name = a2 := ⟨_, rfl⟩
      have la2 : a2.length = a1.length + r.name.length := by rw [← ha2]; simp
      have qa2 : ∀ W, (Op.stringOp .add (txt a1) (txt r.name)).run Tryz.prog W = .ok (.string (txt a2)) W := fun W => ha2 ▸ run_cat a1 r.name (by omega) W
      obtain ⟨a3, ha3⟩ : ∃ a3, a2 ++ [32] = a3 := ⟨_, rfl⟩
      have la3 : a3.length = a2.length + 1 := by rw [← ha3]; simp
      have qa3 : ∀ W, (Op.stringOp .add (txt a2) ⟨#[32]⟩).run Tryz.prog W = .ok (.string (txt a3)) W := fun W => ha3 ▸ run_cat a2 [32] (by simp; omega) W
      obtain ⟨a4, ha4⟩ : ∃ a4, a3 ++ D1 = a4 := ⟨_, rfl⟩
      have la4 : a4.length = a3.length + D1.length := by rw [← ha4]; simp
      have qa4 : ∀ W, (Op.stringOp .add (txt a3) (txt D1)).run Tryz.prog W = .ok (.string (txt a4)) W := fun W => ha4 ▸ run_cat a3 D1 (by omega) W
      obtain ⟨a5, ha5⟩ : ∃ a5, a4 ++ [32, 102, 114, 111, 109, 32] = a5 := ⟨_, rfl⟩
      have la5 : a5.length = a4.length + 6 := by rw [← ha5]; simp
      have qa5 : ∀ W, (Op.stringOp .add (txt a4) ⟨#[32, 102, 114, 111, 109, 32]⟩).run Tryz.prog W = .ok (.string (txt a5)) W := fun W => ha5 ▸ run_cat a4 [32, 102, 114, 111, 109, 32] (by simp; omega) W
      obtain ⟨a6, ha6⟩ : ∃ a6, a5 ++ D2 = a6 := ⟨_, rfl⟩
      have la6 : a6.length = a5.length + D2.length := by rw [← ha6]; simp
      have qa6 : ∀ W, (Op.stringOp .add (txt a5) (txt D2)).run Tryz.prog W = .ok (.string (txt a6)) W := fun W => ha6 ▸ run_cat a5 D2 (by omega) W
      obtain ⟨a7, ha7⟩ : ∃ a7, a6 ++ [32, 116, 111, 32] = a7 := ⟨_, rfl⟩
      have la7 : a7.length = a6.length + 4 := by rw [← ha7]; simp
      have qa7 : ∀ W, (Op.stringOp .add (txt a6) ⟨#[32, 116, 111, 32]⟩).run Tryz.prog W = .ok (.string (txt a7)) W := fun W => ha7 ▸ run_cat a6 [32, 116, 111, 32] (by simp; omega) W
      obtain ⟨a8, ha8⟩ : ∃ a8, a7 ++ D3 = a8 := ⟨_, rfl⟩
      have la8 : a8.length = a7.length + D3.length := by rw [← ha8]; simp
      have qa8 : ∀ W, (Op.stringOp .add (txt a7) (txt D3)).run Tryz.prog W = .ok (.string (txt a8)) W := fun W => ha8 ▸ run_cat a7 D3 (by omega) W
      have HA := hid (show a8 = x ++ headR r by
        rw [← ha8, ← ha7, ← ha6, ← ha5, ← ha4, ← ha3, ← ha2, ← ha1]
        unfold headR
        rw [ED1.out, ED2.out, ED3.out]
        simp only [List.append_assoc])
      have la8' : a8.length ≤ x.length + 11000 := by omega
      have y0 := rbox_cell (v := .string (txt r.name)) HS6.out.box 0 rfl
      have y1 := rbox_cell (v := .int .i64 r.pri) HS6.out.box 1 rfl
      have y9 := rbox_cell (v := .int .i64 r.x.frm) HS6.out.box 9 rfl
      have y10 := rbox_cell (v := .int .i64 r.x.too) HS6.out.box 10 rfl
      clear ha1 la1 ha2 la2 ha3 la3 ha4 la4 ha5 la5 ha6 la6 ha7 la7 ha8 la8
      go_wp2_with fail
      go_big_quiet ((go_at_call 22; first | with_reducible exact Calls.quiet_of_same ((HD1.out _).mono fun e w' h => ⟨h.1, h.2.symm⟩) | with_reducible exact Calls.quiet_of_same ((HD2.out _).mono fun e w' h => ⟨h.1, h.2.symm⟩) | with_reducible exact Calls.quiet_of_same ((HD3.out _).mono fun e w' h => ⟨h.1, h.2.symm⟩)))
      obtain ⟨w7, hw7⟩ : ∃ w7, w6.drewN nq = w7 := ⟨_, rfl⟩
      simp only [hw7]
      have hb7 : Below w6.heap.size w6 w7 := by rw [← hw7]; exact below_drewN (Below.refl _ _)
      have HS7 := hid (HS6.out.on hb7)
      have HW7 := hid (HW6.out.on hb7)
      clear hw7 hb7 HS6 HW6 y0 y1 y9 y10 qa1 qa2 qa3 qa4 qa5 qa6 qa7 qa8 HD1 HD2 HD3
      obtain ⟨V0, eV0⟩ : ∃ V0, showLs (wordL 0) r.x.via = V0 := ⟨_, rfl⟩
      have lV0 : V0.length ≤ 200100 := by rw [← eV0]; have h1 := showLs_len (wordL 0) r.x.via HFa.out.nums.via; have h2 := HFa.out.via; have h3 : (wordL 0).length ≤ 13 := (by decide); omega
      have EV0 := hid eV0
      have HL0 := hid (fun j => show Calls Tryz.prog 23 #[.string ⟨#[118, 105, 97]⟩, .slice y.av y.nv y.cv] (w7.drewN j) fun e w'' => e = .returned (.string (txt V0)) ∧ w7.drewN j = w'' from eV0 ▸ pshows_any (wordL 0) y.av y.nv y.cv r.x.via (w7.drewN j) (by decide) (HW7.out.on (below_drewN (Below.refl _ _))).via.row (by rw [← (HW7.out).via.row.1]; exact HFa.out.via) HFa.out.nums.via)
      obtain ⟨V1, eV1⟩ : ∃ V1, showLs (wordL 1) r.x.nds = V1 := ⟨_, rfl⟩
      have lV1 : V1.length ≤ 200100 := by rw [← eV1]; have h1 := showLs_len (wordL 1) r.x.nds HFa.out.nums.nds; have h2 := HFa.out.nds; have h3 : (wordL 1).length ≤ 13 := (by decide); omega
      have EV1 := hid eV1
      have HL1 := hid (fun j => show Calls Tryz.prog 23 #[.string ⟨#[97, 118, 111, 105, 100, 45, 110, 111, 100, 101, 115]⟩, .slice y.an y.nn y.cn] (w7.drewN j) fun e w'' => e = .returned (.string (txt V1)) ∧ w7.drewN j = w'' from eV1 ▸ pshows_any (wordL 1) y.an y.nn y.cn r.x.nds (w7.drewN j) (by decide) (HW7.out.on (below_drewN (Below.refl _ _))).nds.row (by rw [← (HW7.out).nds.row.1]; exact HFa.out.nds) HFa.out.nums.nds)
      obtain ⟨V2, eV2⟩ : ∃ V2, showLs (wordL 2) r.x.lks = V2 := ⟨_, rfl⟩
      have lV2 : V2.length ≤ 200100 := by rw [← eV2]; have h1 := showLs_len (wordL 2) r.x.lks HFa.out.nums.lks; have h2 := HFa.out.lks; have h3 : (wordL 2).length ≤ 13 := (by decide); omega
      have EV2 := hid eV2
      have HL2 := hid (fun j => show Calls Tryz.prog 23 #[.string ⟨#[97, 118, 111, 105, 100, 45, 108, 105, 110, 107, 115]⟩, .slice y.al y.nl y.cl] (w7.drewN j) fun e w'' => e = .returned (.string (txt V2)) ∧ w7.drewN j = w'' from eV2 ▸ pshows_any (wordL 2) y.al y.nl y.cl r.x.lks (w7.drewN j) (by decide) (HW7.out.on (below_drewN (Below.refl _ _))).lks.row (by rw [← (HW7.out).lks.row.1]; exact HFa.out.lks) HFa.out.nums.lks)
      obtain ⟨V3, eV3⟩ : ∃ V3, showLs (wordL 3) r.x.cls = V3 := ⟨_, rfl⟩
      have lV3 : V3.length ≤ 200100 := by rw [← eV3]; have h1 := showLs_len (wordL 3) r.x.cls HFa.out.nums.cls; have h2 := HFa.out.cls; have h3 : (wordL 3).length ≤ 13 := (by decide); omega
      have EV3 := hid eV3
      have HL3 := hid (fun j => show Calls Tryz.prog 23 #[.string ⟨#[97, 118, 111, 105, 100, 45, 99, 111, 108, 111, 117, 114, 115]⟩, .slice y.ac y.nc y.cc] (w7.drewN j) fun e w'' => e = .returned (.string (txt V3)) ∧ w7.drewN j = w'' from eV3 ▸ pshows_any (wordL 3) y.ac y.nc y.cc r.x.cls (w7.drewN j) (by decide) (HW7.out.on (below_drewN (Below.refl _ _))).cls.row (by rw [← (HW7.out).cls.row.1]; exact HFa.out.cls) HFa.out.nums.cls)
      obtain ⟨N4, eN4⟩ : ∃ N4, showN (wordL 4) r.x.bnd = N4 := ⟨_, rfl⟩
      have lN4 : N4.length ≤ 50 := by rw [← eN4]; have h1 := showN_len (wordL 4) r.x.bnd HFa.out.nums.bnd; have h3 : (wordL 4).length ≤ 13 := (by decide); omega
      have EN4 := hid eN4
      have HN4 := hid (fun W => show Calls Tryz.prog 24 #[.string ⟨#[99, 111, 115, 116]⟩, .int .i64 r.x.bnd] W fun e w'' => e = .returned (.string (txt N4)) ∧ W = w'' from eN4 ▸ pshow_any (wordL 4) r.x.bnd W (by decide) (by have := HFa.out.nums.bnd.2; omega))
      clear eV0 eV1 eV2 eV3 eN4
      obtain ⟨b1, hb1⟩ : ∃ b1, a8 ++ V0 = b1 := ⟨_, rfl⟩
      have lb1 : b1.length = a8.length + V0.length := by rw [← hb1]; simp
      have qb1 : ∀ W, (Op.stringOp .add (txt a8) (txt V0)).run Tryz.prog W = .ok (.string (txt b1)) W := fun W => hb1 ▸ run_cat a8 V0 (by omega) W
      obtain ⟨b2, hb2⟩ : ∃ b2, b1 ++ V1 = b2 := ⟨_, rfl⟩
      have lb2 : b2.length = b1.length + V1.length := by rw [← hb2]; simp
      have qb2 : ∀ W, (Op.stringOp .add (txt b1) (txt V1)).run Tryz.prog W = .ok (.string (txt b2)) W := fun W => hb2 ▸ run_cat b1 V1 (by omega) W
      obtain ⟨b3, hb3⟩ : ∃ b3, b2 ++ V2 = b3 := ⟨_, rfl⟩
      have lb3 : b3.length = b2.length + V2.length := by rw [← hb3]; simp
      have qb3 : ∀ W, (Op.stringOp .add (txt b2) (txt V2)).run Tryz.prog W = .ok (.string (txt b3)) W := fun W => hb3 ▸ run_cat b2 V2 (by omega) W
      obtain ⟨b4, hb4⟩ : ∃ b4, b3 ++ V3 = b4 := ⟨_, rfl⟩
      have lb4 : b4.length = b3.length + V3.length := by rw [← hb4]; simp
      have qb4 : ∀ W, (Op.stringOp .add (txt b3) (txt V3)).run Tryz.prog W = .ok (.string (txt b4)) W := fun W => hb4 ▸ run_cat b3 V3 (by omega) W
      obtain ⟨b5, hb5⟩ : ∃ b5, b4 ++ N4 = b5 := ⟨_, rfl⟩
      have lb5 : b5.length = b4.length + N4.length := by rw [← hb5]; simp
      have qb5 : ∀ W, (Op.stringOp .add (txt b4) (txt N4)).run Tryz.prog W = .ok (.string (txt b5)) W := fun W => hb5 ▸ run_cat b4 N4 (by omega) W
      have HB := hid (show b5 = a8 ++ listR r by
        rw [← hb5, ← hb4, ← hb3, ← hb2, ← hb1]
        unfold listR
        rw [EV0.out, EV1.out, EV2.out, EV3.out, EN4.out]
        simp only [List.append_assoc])
      have lb5' : b5.length ≤ x.length + 811500 := by omega
      have y11 := rbox_cell (v := .int .i64 r.x.bnd) HS7.out.box 11 rfl
      have y12 := rbox_cell (v := .slice y.av y.nv y.cv) HS7.out.box 12 rfl
      have y13 := rbox_cell (v := .slice y.an y.nn y.cn) HS7.out.box 13 rfl
      have y14 := rbox_cell (v := .slice y.al y.nl y.cl) HS7.out.box 14 rfl
      have y15 := rbox_cell (v := .slice y.ac y.nc y.cc) HS7.out.box 15 rfl
      clear hb1 lb1 hb2 lb2 hb3 lb3 hb4 lb4 hb5 lb5 lV0 lV1 lV2 lV3 lN4 la8'
      go_wp2_with fail
      go_big_quiet (first | (go_at_call 23; first | with_reducible exact Calls.quiet_of_same ((HL0.out _).mono fun e w' h => ⟨h.1, h.2.symm⟩) | with_reducible exact Calls.quiet_of_same ((HL1.out _).mono fun e w' h => ⟨h.1, h.2.symm⟩) | with_reducible exact Calls.quiet_of_same ((HL2.out _).mono fun e w' h => ⟨h.1, h.2.symm⟩) | with_reducible exact Calls.quiet_of_same ((HL3.out _).mono fun e w' h => ⟨h.1, h.2.symm⟩)) | (go_at_call 24; with_reducible exact Calls.quiet_of_same ((HN4.out _).mono fun e w' h => ⟨h.1, h.2.symm⟩)))
      obtain ⟨w8, hw8⟩ : ∃ w8, w7.drewN nq = w8 := ⟨_, rfl⟩
      simp only [hw8]
      have hb8 : Below w7.heap.size w7 w8 := by rw [← hw8]; exact below_drewN (Below.refl _ _)
      have HS8 := hid (HS7.out.on hb8)
      clear hw8 hb8 HS7 HW7 y11 y12 y13 y14 y15 qb1 qb2 qb3 qb4 qb5 HL0 HL1 HL2 HL3 HN4
      have ya := rbox_cell (v := .int .u32 (r.m.sa : Int)) HS8.out.box 2 rfl
      have yb := rbox_cell (v := .int .i64 r.m.sl) HS8.out.box 3 rfl
      go_upto_if 68 with fail
      go_cut [3] from 6 to 109 (fun v wx => ∃ c9 : List UInt8, v = .string (txt c9) ∧ Hid (c9 = b5 ++ prefR (wordL 5) r.m.sa r.m.sl) ∧ c9.length ≤ x.length + 812000 ∧ Hid (SSt w BS r y wx))
      case first =>
        by_cases hp : 0 < r.m.sl
        · have tp : decide (0 < r.m.sl) = true := by simpa using hp
          obtain ⟨P, eP⟩ : ∃ P, showS r.m.sa r.m.sl = P := ⟨_, rfl⟩
          have lP : P.length ≤ 100 := by rw [← eP]; exact showS_len _ _ sl1
          have HSP := hid (fun W => eP ▸ show_any r.m.sa r.m.sl W sl1)
          obtain ⟨u1, hu1⟩ : ∃ u1, b5 ++ [32, 115, 114, 99, 32] = u1 := ⟨_, rfl⟩
          have lu1 : u1.length = b5.length + 5 := by rw [← hu1]; simp
          have qu1 : ∀ W, (Op.stringOp .add (txt b5) ⟨#[32, 115, 114, 99, 32]⟩).run Tryz.prog W = .ok (.string (txt u1)) W := fun W => hu1 ▸ run_cat b5 [32, 115, 114, 99, 32] (by simp; omega) W
          obtain ⟨u2, hu2⟩ : ∃ u2, u1 ++ P = u2 := ⟨_, rfl⟩
          have lu2 : u2.length = u1.length + P.length := by rw [← hu2]; simp
          have qu2 : ∀ W, (Op.stringOp .add (txt u1) (txt P)).run Tryz.prog W = .ok (.string (txt u2)) W := fun W => hu2 ▸ run_cat u1 P (by omega) W
          have HU := hid (show u2 = b5 ++ prefR (wordL 5) r.m.sa r.m.sl by
            rw [← hu2, ← hu1, ← eP]
            unfold prefR
            rw [if_pos hp]
            simp [wordL])
          clear eP hu1 hu2
          go_wp2_with (go_at_call 25; (with_reducible refine (HSP.out _).mono ?_); rintro e' w9 ⟨rfl, hb9⟩; have HS9 := hid (HS8.out.on hb9); clear hb9)
          go_meet
          exact ⟨u2, rfl, HU, by omega, HS9⟩
        · have tp : decide (0 < r.m.sl) = false := by simpa using hp
          have HU := hid (show b5 = b5 ++ prefR (wordL 5) r.m.sa r.m.sl by unfold prefR; rw [if_neg hp, List.append_nil])
          go_wp2_with fail
          go_meet
          exact ⟨b5, rfl, HU, by omega, HS8⟩
      case rest =>
      obtain ⟨C, rfl, HC, lC, HS10⟩ := hcut
      clear ya yb
      have ya := rbox_cell (v := .int .u32 (r.m.da : Int)) HS10.out.box 4 rfl
      have yb := rbox_cell (v := .int .i64 r.m.dl) HS10.out.box 5 rfl
      go_upto_if 80 with fail
      go_cut [3] from 6 to 109 (fun v wx => ∃ c9 : List UInt8, v = .string (txt c9) ∧ Hid (c9 = C ++ prefR (wordL 6) r.m.da r.m.dl) ∧ c9.length ≤ x.length + 812500 ∧ Hid (SSt w BS r y wx))
      case first =>
        by_cases hp : 0 < r.m.dl
        · have tp : decide (0 < r.m.dl) = true := by simpa using hp
          obtain ⟨P, eP⟩ : ∃ P, showS r.m.da r.m.dl = P := ⟨_, rfl⟩
          have lP : P.length ≤ 100 := by rw [← eP]; exact showS_len _ _ sl2
          have HSP := hid (fun W => eP ▸ show_any r.m.da r.m.dl W sl2)
          obtain ⟨u1, hu1⟩ : ∃ u1, C ++ [32, 100, 115, 116, 32] = u1 := ⟨_, rfl⟩
          have lu1 : u1.length = C.length + 5 := by rw [← hu1]; simp
          have qu1 : ∀ W, (Op.stringOp .add (txt C) ⟨#[32, 100, 115, 116, 32]⟩).run Tryz.prog W = .ok (.string (txt u1)) W := fun W => hu1 ▸ run_cat C [32, 100, 115, 116, 32] (by simp; omega) W
          obtain ⟨u2, hu2⟩ : ∃ u2, u1 ++ P = u2 := ⟨_, rfl⟩
          have lu2 : u2.length = u1.length + P.length := by rw [← hu2]; simp
          have qu2 : ∀ W, (Op.stringOp .add (txt u1) (txt P)).run Tryz.prog W = .ok (.string (txt u2)) W := fun W => hu2 ▸ run_cat u1 P (by omega) W
          have HU := hid (show u2 = C ++ prefR (wordL 6) r.m.da r.m.dl by
            rw [← hu2, ← hu1, ← eP]
            unfold prefR
            rw [if_pos hp]
            simp [wordL])
          clear eP hu1 hu2
          go_wp2_with (go_at_call 25; (with_reducible refine (HSP.out _).mono ?_); rintro e' w9 ⟨rfl, hb9⟩; have HS9 := hid (HS10.out.on hb9); clear hb9)
          go_meet
          exact ⟨u2, rfl, HU, by omega, HS9⟩
        · have tp : decide (0 < r.m.dl) = false := by simpa using hp
          have HU := hid (show C = C ++ prefR (wordL 6) r.m.da r.m.dl by unfold prefR; rw [if_neg hp, List.append_nil])
          go_wp2_with fail
          go_meet
          exact ⟨C, rfl, HU, by omega, HS10⟩
      case rest =>
      obtain ⟨D, rfl, HD, lD, HS11⟩ := hcut
      clear ya yb
      obtain ⟨N7, eN7⟩ : ∃ N7, showN (wordL 7) r.m.pr = N7 := ⟨_, rfl⟩
      have lN7 : N7.length ≤ 50 := by rw [← eN7]; have h1 := showN_len (wordL 7) r.m.pr HFa.out.nums.pr; have h3 : (wordL 7).length ≤ 13 := (by decide); omega
      have EN7 := hid eN7
      have HN7 := hid (fun W => show Calls Tryz.prog 24 #[.string ⟨#[112, 114, 111, 116, 111]⟩, .int .i64 r.m.pr] W fun e w'' => e = .returned (.string (txt N7)) ∧ W = w'' from eN7 ▸ pshow_any (wordL 7) r.m.pr W (by decide) (by have := HFa.out.nums.pr.2; omega))
      obtain ⟨N8, eN8⟩ : ∃ N8, showN (wordL 8) r.m.sp = N8 := ⟨_, rfl⟩
      have lN8 : N8.length ≤ 50 := by rw [← eN8]; have h1 := showN_len (wordL 8) r.m.sp HFa.out.nums.sp; have h3 : (wordL 8).length ≤ 13 := (by decide); omega
      have EN8 := hid eN8
      have HN8 := hid (fun W => show Calls Tryz.prog 24 #[.string ⟨#[115, 112, 111, 114, 116]⟩, .int .i64 r.m.sp] W fun e w'' => e = .returned (.string (txt N8)) ∧ W = w'' from eN8 ▸ pshow_any (wordL 8) r.m.sp W (by decide) (by have := HFa.out.nums.sp.2; omega))
      obtain ⟨N9, eN9⟩ : ∃ N9, showN (wordL 9) r.m.dp = N9 := ⟨_, rfl⟩
      have lN9 : N9.length ≤ 50 := by rw [← eN9]; have h1 := showN_len (wordL 9) r.m.dp HFa.out.nums.dp; have h3 : (wordL 9).length ≤ 13 := (by decide); omega
      have EN9 := hid eN9
      have HN9 := hid (fun W => show Calls Tryz.prog 24 #[.string ⟨#[100, 112, 111, 114, 116]⟩, .int .i64 r.m.dp] W fun e w'' => e = .returned (.string (txt N9)) ∧ W = w'' from eN9 ▸ pshow_any (wordL 9) r.m.dp W (by decide) (by have := HFa.out.nums.dp.2; omega))
      clear eN7 eN8 eN9
      obtain ⟨e1, he1⟩ : ∃ e1, D ++ N7 = e1 := ⟨_, rfl⟩
      have le1 : e1.length = D.length + N7.length := by rw [← he1]; simp
      have qe1 : ∀ W, (Op.stringOp .add (txt D) (txt N7)).run Tryz.prog W = .ok (.string (txt e1)) W := fun W => he1 ▸ run_cat D N7 (by omega) W
      obtain ⟨e2, he2⟩ : ∃ e2, e1 ++ N8 = e2 := ⟨_, rfl⟩
      have le2 : e2.length = e1.length + N8.length := by rw [← he2]; simp
      have qe2 : ∀ W, (Op.stringOp .add (txt e1) (txt N8)).run Tryz.prog W = .ok (.string (txt e2)) W := fun W => he2 ▸ run_cat e1 N8 (by omega) W
      obtain ⟨e3, he3⟩ : ∃ e3, e2 ++ N9 = e3 := ⟨_, rfl⟩
      have le3 : e3.length = e2.length + N9.length := by rw [← he3]; simp
      have qe3 : ∀ W, (Op.stringOp .add (txt e2) (txt N9)).run Tryz.prog W = .ok (.string (txt e3)) W := fun W => he3 ▸ run_cat e2 N9 (by omega) W
      have HE := hid (show e3 = D ++ portR r by
        rw [← he3, ← he2, ← he1]
        unfold portR
        rw [EN7.out, EN8.out, EN9.out]
        simp only [List.append_assoc])
      have le3' : e3.length ≤ x.length + 812700 := by omega
      have y6 := rbox_cell (v := .int .i64 r.m.pr) HS11.out.box 6 rfl
      have y7 := rbox_cell (v := .int .i64 r.m.sp) HS11.out.box 7 rfl
      have y8 := rbox_cell (v := .int .i64 r.m.dp) HS11.out.box 8 rfl
      clear he1 le1 he2 le2 he3 le3 lN7 lN8 lN9 lC lD
      go_wp2_with fail
      go_big_quiet ((go_at_call 24; first | with_reducible exact Calls.quiet_of_same ((HN7.out _).mono fun e w' h => ⟨h.1, h.2.symm⟩) | with_reducible exact Calls.quiet_of_same ((HN8.out _).mono fun e w' h => ⟨h.1, h.2.symm⟩) | with_reducible exact Calls.quiet_of_same ((HN9.out _).mono fun e w' h => ⟨h.1, h.2.symm⟩)))
      obtain ⟨w12, hw12⟩ : ∃ w12, wc.drewN nq = w12 := ⟨_, rfl⟩
      simp only [hw12]
      have HS12 := hid (show SSt w BS r y w12 by rw [← hw12]; exact HS11.out.on (below_drewN (Below.refl _ _)))
      clear hw12 HS11 y6 y7 y8 qe1 qe2 qe3 HN7 HN8 HN9
      have y16 := rbox_cell (v := .bool r.strict) HS12.out.box 16 rfl
      have HFin := hid (fun (g : List UInt8) (hg : g = e3 ++ (if r.strict then [32] ++ wordL 10 else []) ++ [59, 10]) => show g = showAll ((qs.take (k + 1)).map (·.1)) by
        rw [List.take_add_one, HQ.out, List.map_append]
        unfold showAll
        rw [List.flatMap_append, hg, HE.out, HD.out, HC.out, HB.out, HA.out, HX.out]
        simp [showAll, showR])
      have e0 : IntKind.i64.wrap ((k : Int) + 1) = (k : Int) + 1 := by rw [IntKind.wrap_i64]; omega
      clear hn0 sl1 sl2 lb5'
      cases hst : r.strict with
      | true =>
        rw [hst] at HFin y16
        obtain ⟨f1, hf1⟩ : ∃ f1, e3 ++ [32, 115, 116, 114, 105, 99, 116] = f1 := ⟨_, rfl⟩
        have lf1 : f1.length = e3.length + 7 := by rw [← hf1]; simp
        have qf1 : ∀ W, (Op.stringOp .add (txt e3) ⟨#[32, 115, 116, 114, 105, 99, 116]⟩).run Tryz.prog W = .ok (.string (txt f1)) W := fun W => hf1 ▸ run_cat e3 [32, 115, 116, 114, 105, 99, 116] (by simp; omega) W
        obtain ⟨f2, hf2⟩ : ∃ f2, f1 ++ [59, 10] = f2 := ⟨_, rfl⟩
        have lf2 : f2.length = f1.length + 2 := by rw [← hf2]; simp
        have qf2 : ∀ W, (Op.stringOp .add (txt f1) ⟨#[59, 10]⟩).run Tryz.prog W = .ok (.string (txt f2)) W := fun W => hf2 ▸ run_cat f1 [59, 10] (by simp; omega) W
        have HZ := hid (HFin.out f2 (by rw [← hf2, ← hf1]; simp [wordL]))
        clear hf1 hf2 hst
        go_wp2_with fail
        go_roundw
        case rel => exact ⟨k + 1, f2, by omega, by go_num, rfl, HZ, by omega, hid HS12.out.bel⟩
        case measure => simp [intOf]; omega
      | false =>
        rw [hst] at HFin y16
        obtain ⟨f1, hf1⟩ : ∃ f1, e3 ++ [59, 10] = f1 := ⟨_, rfl⟩
        have lf1 : f1.length = e3.length + 2 := by rw [← hf1]; simp
        have qf1 : ∀ W, (Op.stringOp .add (txt e3) ⟨#[59, 10]⟩).run Tryz.prog W = .ok (.string (txt f1)) W := fun W => hf1 ▸ run_cat e3 [59, 10] (by simp; omega) W
        have HZ := hid (HFin.out f1 (by rw [← hf1]; simp))
        clear hf1 hst
        go_wp2_with fail
        go_roundw
        case rel => exact ⟨k + 1, f1, by omega, by go_num, rfl, HZ, by omega, hid HS12.out.bel⟩
        case measure => simp [intOf]; omega
    · obtain rfl : n = k := by omega
      have HQ := hid (show R = x by rw [← HR.out, HX.out, List.take_of_length_le (by rw [Hlen.out]; exact Nat.le_refl _)])
      go_wp2_with fail
      go_ret
      exact ⟨by rw [HQ.out]; rfl, HBr.out⟩
end Go.Proofs.YtcmkcloapenpnaaGreatDoor
