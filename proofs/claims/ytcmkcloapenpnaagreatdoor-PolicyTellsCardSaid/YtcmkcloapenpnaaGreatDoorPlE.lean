/- The reference's parser: has, clause. -/
import Derived.Test.YtcmkcloapenpnaaGreatDoorPlD
namespace Go.Proofs.YtcmkcloapenpnaaGreatDoor
open Go.RowKit
set_option maxHeartbeats 6400000
set_option maxRecDepth 100000
/-- All blocks but two stay. -/
structure But2 (B C : Nat) (w w' : World) : Prop where
  os : w'.os = w.os
  tape : w'.tape = w.tape
  output : w'.output = w.output
  size : w.heap.size ≤ w'.heap.size
  block : ∀ g, g < w.heap.size → g ≠ B → g ≠ C → w'.heap[g]? = w.heap[g]?
theorem But2.refl (B C : Nat) (w : World) : But2 B C w w := ⟨rfl, rfl, rfl, Nat.le_refl _, fun _ _ _ _ => rfl⟩
theorem But2.trans {B C : Nat} {a b c : World} (h : But2 B C a b) (h' : But2 B C b c) : But2 B C a c :=
  ⟨h'.os.trans h.os, h'.tape.trans h.tape, h'.output.trans h.output, Nat.le_trans h.size h'.size, fun g hg h1 h2 => (h'.block g (Nat.lt_of_lt_of_le hg h.size) h1 h2).trans (h.block g hg h1 h2)⟩
theorem But2.fst {B C : Nat} {a b : World} (h : But B a b) : But2 B C a b := ⟨h.os, h.tape, h.output, h.size, fun g hg h1 _ => h.block g hg h1⟩
theorem But2.snd {B C : Nat} {a b : World} (h : But C a b) : But2 B C a b := ⟨h.os, h.tape, h.output, h.size, fun g hg _ h2 => h.block g hg h2⟩
theorem But2.old {B C D : Nat} {w w' : World} (h : But2 B C w w') (hC : D ≤ C) (w0 : World) (h0 : But B w0 w) (hw : w0.heap.size ≤ D) : But B w0 w' :=
  ⟨h.os.trans h0.os, h.tape.trans h0.tape, h.output.trans h0.output, Nat.le_trans h0.size h.size, fun g hg h1 => (h.block g (Nat.lt_of_lt_of_le hg h0.size) h1 (by omega)).trans (h0.block g hg h1)⟩
/-- A rule's cells. -/
def rarr (r : Rul) (y : WSl) : Array Value := #[.string (txt r.name), .int .i64 r.pri, .int .u32 (r.m.sa : Int), .int .i64 r.m.sl, .int .u32 (r.m.da : Int), .int .i64 r.m.dl, .int .i64 r.m.pr, .int .i64 r.m.sp, .int .i64 r.m.dp,
  .int .i64 r.x.frm, .int .i64 r.x.too, .int .i64 r.x.bnd, .slice y.av y.nv y.cv, .slice y.an y.nn y.cn, .slice y.al y.nl y.cl, .slice y.ac y.nc y.cc, .bool r.strict]
def RBox (BR : Nat) (r : Rul) (y : WSl) (w : World) : Prop := w.heap[BR]? = some (.cells (rarr r y) 42 (0, 0))
/-- The lists of a rule are a call's own. -/
structure ROwn (w : World) (x : Wnt) (y : WSl) : Prop where
  via : w.ownsRow 0 3 1 (.slice y.av y.nv y.cv) y.nv (icells x.via)
  nds : w.ownsRow 0 3 1 (.slice y.an y.nn y.cn) y.nn (icells x.nds)
  lks : w.ownsRow 0 3 1 (.slice y.al y.nl y.cl) y.nl (icells x.lks)
  cls : w.ownsRow 0 3 1 (.slice y.ac y.nc y.cc) y.nc (icells x.cls)
theorem ROwn.any {w w' : World} {x : Wnt} {y : WSl} (h : ROwn w x y) (ha : ∀ {m : Nat} {v : Value} {xs : List Value}, w.ownsRow 0 3 1 v m xs → w'.ownsRow 0 3 1 v m xs) : ROwn w' x y := ⟨ha h.via, ha h.nds, ha h.lks, ha h.cls⟩
theorem rbox_cells {w : World} {B : Nat} {r : Rul} {y : WSl} (h : RBox B r y w) : w.cell? ⟨B, 0, none⟩ = some (.string (txt r.name)) ∧ w.cell? ⟨B, 1, none⟩ = some (.int .i64 r.pri) ∧ w.cell? ⟨B, 2, none⟩ = some (.int .u32 (r.m.sa : Int)) ∧ w.cell? ⟨B, 3, none⟩ = some (.int .i64 r.m.sl) ∧ w.cell? ⟨B, 4, none⟩ = some (.int .u32 (r.m.da : Int)) ∧ w.cell? ⟨B, 5, none⟩ = some (.int .i64 r.m.dl) ∧ w.cell? ⟨B, 6, none⟩ = some (.int .i64 r.m.pr) ∧ w.cell? ⟨B, 7, none⟩ = some (.int .i64 r.m.sp) ∧ w.cell? ⟨B, 8, none⟩ = some (.int .i64 r.m.dp) ∧
    w.cell? ⟨B, 9, none⟩ = some (.int .i64 r.x.frm) ∧ w.cell? ⟨B, 10, none⟩ = some (.int .i64 r.x.too) ∧ w.cell? ⟨B, 11, none⟩ = some (.int .i64 r.x.bnd) ∧ w.cell? ⟨B, 12, none⟩ = some (.slice y.av y.nv y.cv) ∧ w.cell? ⟨B, 13, none⟩ = some (.slice y.an y.nn y.cn) ∧ w.cell? ⟨B, 14, none⟩ = some (.slice y.al y.nl y.cl) ∧ w.cell? ⟨B, 15, none⟩ = some (.slice y.ac y.nc y.cc) ∧ w.cell? ⟨B, 16, none⟩ = some (.bool r.strict) := by
  refine ⟨?_, ?_, ?_, ?_, ?_, ?_, ?_, ?_, ?_, ?_, ?_, ?_, ?_, ?_, ?_, ?_, ?_⟩ <;> (rw [cell_of_row _ _ _ _ _ _ h]; rfl)
theorem rbox_frozen {w : World} {B : Nat} {r : Rul} {y : WSl} (h : RBox B r y w) (j : Nat) : w.frozen? ⟨B, j, none⟩ = false := frozen_of_row _ _ _ _ _ h
theorem rbox_cell {w : World} {B : Nat} {r : Rul} {y : WSl} (h : RBox B r y w) (j : Nat) {v : Value} (hv : (rarr r y)[j]? = some v) : w.cell? ⟨B, j, none⟩ = some v := by rw [cell_of_row _ _ _ _ _ _ h]; exact hv
theorem rbox_but {w w' : World} {B C : Nat} {r : Rul} {y : WSl} (h : RBox B r y w) (hb : But C w w') (hne : B ≠ C) : RBox B r y w' := (hb.block B (pst_lt h) hne).trans h
theorem has_any (A : Option Addr) (n c : Nat) (L : List (List UInt8)) (s : List UInt8) (w : World) (hr : RStr w w.heap.size A n L) (hn : n ≤ 1000000) :
    Calls Tryz.prog 42 #[.slice A n c, .string (txt s)] w fun e w' => e = .returned (.bool (decide (s ∈ L))) ∧ w = w' := by
  have hlen := hr.1
  have HR := hid hr
  obtain ⟨D, hD⟩ : ∃ D, decide (s ∈ L) = D := ⟨_, rfl⟩
  rw [hD]
  have HD := hid hD
  clear hr hD
  go_enter Tryz.func42, Tryz.ntmps42
  go_wp2_with fail
  go_loopw [5] (fun i wr => ∃ k : Nat, k ≤ n ∧ i = .int .i64 k ∧ Hid (s ∉ L.take k) ∧ wr = w) (fun i _ => n - (intOf i).toNat)
  case atStart => exact ⟨0, Nat.zero_le _, rfl, hid (by simp), rfl⟩
  case round =>
    obtain ⟨k, hk, rfl, HQ, rfl⟩ := hrel
    by_cases hlt : k < n
    · obtain ⟨b, off, rfl, _, hc⟩ := HR.out.2 (by omega)
      have hx := List.getElem?_eq_getElem (l := L) (i := k) (by omega)
      obtain ⟨x, hx2⟩ : ∃ x, L[k]? = some x := ⟨_, hx⟩
      have hcx := hc k x hx2
      have HX := hid hx2
      have k1 : (k : Int) < (n : Int) := by omega
      have e0 : IntKind.i64.wrap ((k : Int) + 1) = (k : Int) + 1 := by rw [IntKind.wrap_i64]; omega
      clear hc hx hx2
      by_cases he : x = s
      · have Q : decide (s ∈ L) = true := by rw [decide_eq_true_iff, ← he]; exact List.mem_of_getElem? HX.out
        have HQ2 := hid (HD.out.symm.trans Q)
        subst he
        clear Q
        go_wp2_with fail
        go_ret
        exact ⟨ret_bool HQ2.out.symm, rfl⟩
      · have t2 : ((txt x).toList == (txt s).toList) = false := by rw [txt_list, txt_list]; simpa using he
        go_wp2_with fail
        go_roundw
        case rel => exact ⟨k + 1, by omega, by go_num, hid (by rw [List.take_add_one, HX.out]; simp; exact ⟨HQ.out, fun h => he h.symm⟩), by first | rfl | trivial⟩
        case measure => simp [intOf]; omega
    · obtain rfl : n = k := by omega
      have Q : decide (s ∈ L) = false := by
        rw [decide_eq_false_iff_not]
        have := HQ.out
        rwa [List.take_of_length_le (by omega)] at this
      have HQ2 := hid (HD.out.symm.trans Q)
      clear Q
      go_wp2_with fail
      go_ret
      exact ⟨ret_bool HQ2.out.symm, rfl⟩
def ClAns (BP BR : Nat) (A : Option Addr) (n c : Nat) (l : List Tok) (k i : Nat) (r : Rul) (w : World) (e : Ending) (w' : World) : Prop :=
  But2 BP BR w w' ∧ e = .returned (.bool true) ∧ ∃ k' r' y', RBox BR r' y' w' ∧ ((clauseI i r (Kd l k) = .ok (r', Kd l k') ∧ PSt BP A n c l k' false w' ∧ ROwn w' r'.x y') ∨ (clauseI i r (Kd l k) = .error (Kd l k') ∧ PSt BP A n c l k' true w'))
theorem rown_but {w w' : World} {C : Nat} {x : Wnt} {y : WSl} {t : TypeId} {cs : Array Value} {fz : Nat × Nat} (h : ROwn w x y) (hb : But C w w') (ho : w.heap[C]? = some (.cells cs t fz)) (hne : 3 ≠ t) : ROwn w' x y := h.any fun hh => own_but hh hb ho hne
theorem clause_0 (BP BR : Nat) (A : Option Addr) (n c : Nat) (l : List Tok) (k : Nat) (r : Rul) (y : WSl) (w : World) (h : PSt BP A n c l k false w) (hr : RBox BR r y w) (ho : ROwn w r.x y) (hne : BR ≠ BP) :
    Calls Tryz.prog 43 #[.pointer (some ⟨BP, 0, none⟩), .string ⟨#[118, 105, 97]⟩, .pointer (some ⟨BR, 0, none⟩)] w (ClAns BP BR A n c l k 0 r w) := by
  have HN := hid (nums_any BP A n c l k w h)
  have HR := hid hr
  have HO := hid ho
  have HP := hid h
  clear h hr ho
  go_enter Tryz.func43, Tryz.ntmps43
  go_wp2_with (go_at_call 59; (with_reducible refine HN.out.mono ?_); rintro e' w5 ⟨hbut, A5, m5, c5, k6, rfl, hx6⟩; have HBut := hid hbut; have HX6 := hid hx6; have HR5 := hid (rbox_but HR.out hbut hne); have f5 := rbox_frozen HR5.out 12; have g5 := rbox_cell HR5.out 12 rfl; clear hbut hx6)
  go_ret
  have hBR : ∀ L : List Int, RBox BR { r with x := { r.x with via := L } } { y with av := A5, nv := m5, cv := c5 } (w5.setCell ⟨BR, 12, none⟩ (.slice A5 m5 c5)) := fun _ => heap_setCell_same w5 BR 12 _ _ _ HR5.out
  rcases HX6.out with ⟨vs, hv, hl, _, hown, hp6⟩ | ⟨hv, hp6⟩
  · refine ⟨(But2.fst HBut.out).trans (But2.snd But.set), rfl, k6, _, _, hBR (vs.map Int.ofNat), .inl ⟨by simp only [clauseI, withL, hv], hp6.other But.set HR5.out (by decide) (by decide), ?_⟩⟩
    have h1 := rown_but (rown_but HO.out HBut.out HP.out.box (by decide)) (But.set (j := 12) (u := .slice A5 m5 c5)) HR5.out (by decide)
    have h2 := own_but (own_mono hown (Nat.zero_le _)) (But.set (j := 12) (u := .slice A5 m5 c5)) HR5.out (by decide)
    exact ⟨h2, h1.nds, h1.lks, h1.cls⟩
  · exact ⟨(But2.fst HBut.out).trans (But2.snd But.set), rfl, k6, _, _, hBR [], .inr ⟨by simp only [clauseI, withL, hv], hp6.other But.set HR5.out (by decide) (by decide)⟩⟩
theorem clause_1 (BP BR : Nat) (A : Option Addr) (n c : Nat) (l : List Tok) (k : Nat) (r : Rul) (y : WSl) (w : World) (h : PSt BP A n c l k false w) (hr : RBox BR r y w) (ho : ROwn w r.x y) (hne : BR ≠ BP) :
    Calls Tryz.prog 43 #[.pointer (some ⟨BP, 0, none⟩), .string ⟨#[97, 118, 111, 105, 100, 45, 110, 111, 100, 101, 115]⟩, .pointer (some ⟨BR, 0, none⟩)] w (ClAns BP BR A n c l k 1 r w) := by
  have HN := hid (nums_any BP A n c l k w h)
  have HR := hid hr
  have HO := hid ho
  have HP := hid h
  clear h hr ho
  go_enter Tryz.func43, Tryz.ntmps43
  go_wp2_with (go_at_call 59; (with_reducible refine HN.out.mono ?_); rintro e' w5 ⟨hbut, A5, m5, c5, k6, rfl, hx6⟩; have HBut := hid hbut; have HX6 := hid hx6; have HR5 := hid (rbox_but HR.out hbut hne); have f5 := rbox_frozen HR5.out 13; have g5 := rbox_cell HR5.out 13 rfl; clear hbut hx6)
  go_ret
  have hBR : ∀ L : List Int, RBox BR { r with x := { r.x with nds := L } } { y with an := A5, nn := m5, cn := c5 } (w5.setCell ⟨BR, 13, none⟩ (.slice A5 m5 c5)) := fun _ => heap_setCell_same w5 BR 13 _ _ _ HR5.out
  rcases HX6.out with ⟨vs, hv, hl, _, hown, hp6⟩ | ⟨hv, hp6⟩
  · refine ⟨(But2.fst HBut.out).trans (But2.snd But.set), rfl, k6, _, _, hBR (vs.map Int.ofNat), .inl ⟨by simp only [clauseI, withL, hv], hp6.other But.set HR5.out (by decide) (by decide), ?_⟩⟩
    have h1 := rown_but (rown_but HO.out HBut.out HP.out.box (by decide)) (But.set (j := 13) (u := .slice A5 m5 c5)) HR5.out (by decide)
    have h2 := own_but (own_mono hown (Nat.zero_le _)) (But.set (j := 13) (u := .slice A5 m5 c5)) HR5.out (by decide)
    exact ⟨h1.via, h2, h1.lks, h1.cls⟩
  · exact ⟨(But2.fst HBut.out).trans (But2.snd But.set), rfl, k6, _, _, hBR [], .inr ⟨by simp only [clauseI, withL, hv], hp6.other But.set HR5.out (by decide) (by decide)⟩⟩
theorem clause_2 (BP BR : Nat) (A : Option Addr) (n c : Nat) (l : List Tok) (k : Nat) (r : Rul) (y : WSl) (w : World) (h : PSt BP A n c l k false w) (hr : RBox BR r y w) (ho : ROwn w r.x y) (hne : BR ≠ BP) :
    Calls Tryz.prog 43 #[.pointer (some ⟨BP, 0, none⟩), .string ⟨#[97, 118, 111, 105, 100, 45, 108, 105, 110, 107, 115]⟩, .pointer (some ⟨BR, 0, none⟩)] w (ClAns BP BR A n c l k 2 r w) := by
  have HN := hid (nums_any BP A n c l k w h)
  have HR := hid hr
  have HO := hid ho
  have HP := hid h
  clear h hr ho
  go_enter Tryz.func43, Tryz.ntmps43
  go_wp2_with (go_at_call 59; (with_reducible refine HN.out.mono ?_); rintro e' w5 ⟨hbut, A5, m5, c5, k6, rfl, hx6⟩; have HBut := hid hbut; have HX6 := hid hx6; have HR5 := hid (rbox_but HR.out hbut hne); have f5 := rbox_frozen HR5.out 14; have g5 := rbox_cell HR5.out 14 rfl; clear hbut hx6)
  go_ret
  have hBR : ∀ L : List Int, RBox BR { r with x := { r.x with lks := L } } { y with al := A5, nl := m5, cl := c5 } (w5.setCell ⟨BR, 14, none⟩ (.slice A5 m5 c5)) := fun _ => heap_setCell_same w5 BR 14 _ _ _ HR5.out
  rcases HX6.out with ⟨vs, hv, hl, _, hown, hp6⟩ | ⟨hv, hp6⟩
  · refine ⟨(But2.fst HBut.out).trans (But2.snd But.set), rfl, k6, _, _, hBR (vs.map Int.ofNat), .inl ⟨by simp only [clauseI, withL, hv], hp6.other But.set HR5.out (by decide) (by decide), ?_⟩⟩
    have h1 := rown_but (rown_but HO.out HBut.out HP.out.box (by decide)) (But.set (j := 14) (u := .slice A5 m5 c5)) HR5.out (by decide)
    have h2 := own_but (own_mono hown (Nat.zero_le _)) (But.set (j := 14) (u := .slice A5 m5 c5)) HR5.out (by decide)
    exact ⟨h1.via, h1.nds, h2, h1.cls⟩
  · exact ⟨(But2.fst HBut.out).trans (But2.snd But.set), rfl, k6, _, _, hBR [], .inr ⟨by simp only [clauseI, withL, hv], hp6.other But.set HR5.out (by decide) (by decide)⟩⟩
theorem clause_3 (BP BR : Nat) (A : Option Addr) (n c : Nat) (l : List Tok) (k : Nat) (r : Rul) (y : WSl) (w : World) (h : PSt BP A n c l k false w) (hr : RBox BR r y w) (ho : ROwn w r.x y) (hne : BR ≠ BP) :
    Calls Tryz.prog 43 #[.pointer (some ⟨BP, 0, none⟩), .string ⟨#[97, 118, 111, 105, 100, 45, 99, 111, 108, 111, 117, 114, 115]⟩, .pointer (some ⟨BR, 0, none⟩)] w (ClAns BP BR A n c l k 3 r w) := by
  have HN := hid (nums_any BP A n c l k w h)
  have HR := hid hr
  have HO := hid ho
  have HP := hid h
  clear h hr ho
  go_enter Tryz.func43, Tryz.ntmps43
  go_wp2_with (go_at_call 59; (with_reducible refine HN.out.mono ?_); rintro e' w5 ⟨hbut, A5, m5, c5, k6, rfl, hx6⟩; have HBut := hid hbut; have HX6 := hid hx6; have HR5 := hid (rbox_but HR.out hbut hne); have f5 := rbox_frozen HR5.out 15; have g5 := rbox_cell HR5.out 15 rfl; clear hbut hx6)
  go_ret
  have hBR : ∀ L : List Int, RBox BR { r with x := { r.x with cls := L } } { y with ac := A5, nc := m5, cc := c5 } (w5.setCell ⟨BR, 15, none⟩ (.slice A5 m5 c5)) := fun _ => heap_setCell_same w5 BR 15 _ _ _ HR5.out
  rcases HX6.out with ⟨vs, hv, hl, _, hown, hp6⟩ | ⟨hv, hp6⟩
  · refine ⟨(But2.fst HBut.out).trans (But2.snd But.set), rfl, k6, _, _, hBR (vs.map Int.ofNat), .inl ⟨by simp only [clauseI, withL, hv], hp6.other But.set HR5.out (by decide) (by decide), ?_⟩⟩
    have h1 := rown_but (rown_but HO.out HBut.out HP.out.box (by decide)) (But.set (j := 15) (u := .slice A5 m5 c5)) HR5.out (by decide)
    have h2 := own_but (own_mono hown (Nat.zero_le _)) (But.set (j := 15) (u := .slice A5 m5 c5)) HR5.out (by decide)
    exact ⟨h1.via, h1.nds, h1.lks, h2⟩
  · exact ⟨(But2.fst HBut.out).trans (But2.snd But.set), rfl, k6, _, _, hBR [], .inr ⟨by simp only [clauseI, withL, hv], hp6.other But.set HR5.out (by decide) (by decide)⟩⟩
theorem clause_4 (BP BR : Nat) (A : Option Addr) (n c : Nat) (l : List Tok) (k : Nat) (r : Rul) (y : WSl) (w : World) (h : PSt BP A n c l k false w) (hr : RBox BR r y w) (ho : ROwn w r.x y) (hne : BR ≠ BP) :
    Calls Tryz.prog 43 #[.pointer (some ⟨BP, 0, none⟩), .string ⟨#[99, 111, 115, 116]⟩, .pointer (some ⟨BR, 0, none⟩)] w (ClAns BP BR A n c l k 4 r w) := by
  have HN := hid (pnum_any BP A n c l k w h)
  have HR := hid hr
  have HO := hid ho
  have HP := hid h
  clear h hr ho
  go_enter Tryz.func43, Tryz.ntmps43
  go_wp2_with (go_at_call 41; (with_reducible refine HN.out.mono ?_); intro e' w5 hN; obtain ⟨x, k6, b6, rfl, hbut, hp6, hx6⟩ := num_cases hN; have HBut := hid hbut; have HP6 := hid hp6; have HX6 := hid hx6; have HR5 := hid (rbox_but HR.out hbut hne); have f5 := rbox_frozen HR5.out 11; have g5 := rbox_cell HR5.out 11 rfl; clear hN hbut hp6 hx6)
  go_ret
  have hBR : RBox BR { r with x := { r.x with bnd := x } } y (w5.setCell ⟨BR, 11, none⟩ (.int .i64 x)) := heap_setCell_same w5 BR 11 _ _ _ HR5.out
  refine ⟨(But2.fst HBut.out).trans (But2.snd But.set), rfl, k6, _, y, hBR, ?_⟩
  rcases HX6.out with ⟨rfl, v, hv, rfl, rfl⟩ | ⟨rfl, hv, rfl⟩
  · refine .inl ⟨by simp only [clauseI, withN, (num1_at hv).1], HP6.out.other But.set HR5.out (by decide) (by decide), ?_⟩
    have h1 := rown_but (rown_but HO.out HBut.out HP.out.box (by decide)) (But.set (j := 11) (u := .int .i64 (v : Int))) HR5.out (by decide)
    exact ⟨h1.via, h1.nds, h1.lks, h1.cls⟩
  · exact .inr ⟨by simp only [clauseI, withN, num1_bad hv], HP6.out.other But.set HR5.out (by decide) (by decide)⟩
theorem clause_5 (BP BR : Nat) (A : Option Addr) (n c : Nat) (l : List Tok) (k : Nat) (r : Rul) (y : WSl) (w : World) (h : PSt BP A n c l k false w) (hr : RBox BR r y w) (ho : ROwn w r.x y) (hne : BR ≠ BP) :
    Calls Tryz.prog 43 #[.pointer (some ⟨BP, 0, none⟩), .string ⟨#[115, 114, 99]⟩, .pointer (some ⟨BR, 0, none⟩)] w (ClAns BP BR A n c l k 5 r w) := by
  have HN := hid (pprefix_any BP A n c l k w h)
  have HR := hid hr
  have HO := hid ho
  have HP := hid h
  clear h hr ho
  go_enter Tryz.func43, Tryz.ntmps43
  go_wp2_with (go_at_call 60; (with_reducible refine HN.out.mono ?_); rintro e' w5 ⟨hbut, a5, m5, rfl, hx6⟩; have HBut := hid hbut; have HX6 := hid hx6; have HR5 := hid (rbox_but HR.out hbut hne); have f5 := rbox_frozen HR5.out 2; have f6 := rbox_frozen HR5.out 3; have g5 := rbox_cell HR5.out 2 rfl; have g6 := rbox_cell HR5.out 3 rfl; clear hbut hx6)
  go_ret
  have hB1 : RBox BR { r with m := { r.m with sa := a5 } } y (w5.setCell ⟨BR, 2, none⟩ (.int .u32 (a5 : Int))) := heap_setCell_same w5 BR 2 _ _ _ HR5.out
  have hBR : RBox BR { r with m := { r.m with sa := a5, sl := (m5 : Int) } } y ((w5.setCell ⟨BR, 2, none⟩ (.int .u32 (a5 : Int))).setCell ⟨BR, 3, none⟩ (.int .i64 (m5 : Int))) := heap_setCell_same _ BR 3 _ _ _ hB1
  refine ⟨((But2.fst HBut.out).trans (But2.snd But.set)).trans (But2.snd But.set), rfl, ?_⟩
  rcases HX6.out with ⟨hv, hp6⟩ | ⟨hv, hp6⟩
  · refine ⟨k + 1, _, y, hBR, .inl ⟨by simp only [clauseI, withP, hv], (hp6.other But.set HR5.out (by decide) (by decide)).other But.set hB1 (by decide) (by decide), ?_⟩⟩
    exact rown_but (rown_but (rown_but HO.out HBut.out HP.out.box (by decide)) But.set HR5.out (by decide)) But.set hB1 (by decide)
  · exact ⟨k, _, y, hBR, .inr ⟨by simp only [clauseI, withP, hv], (hp6.other But.set HR5.out (by decide) (by decide)).other But.set hB1 (by decide) (by decide)⟩⟩
theorem clause_6 (BP BR : Nat) (A : Option Addr) (n c : Nat) (l : List Tok) (k : Nat) (r : Rul) (y : WSl) (w : World) (h : PSt BP A n c l k false w) (hr : RBox BR r y w) (ho : ROwn w r.x y) (hne : BR ≠ BP) :
    Calls Tryz.prog 43 #[.pointer (some ⟨BP, 0, none⟩), .string ⟨#[100, 115, 116]⟩, .pointer (some ⟨BR, 0, none⟩)] w (ClAns BP BR A n c l k 6 r w) := by
  have HN := hid (pprefix_any BP A n c l k w h)
  have HR := hid hr
  have HO := hid ho
  have HP := hid h
  clear h hr ho
  go_enter Tryz.func43, Tryz.ntmps43
  go_wp2_with (go_at_call 60; (with_reducible refine HN.out.mono ?_); rintro e' w5 ⟨hbut, a5, m5, rfl, hx6⟩; have HBut := hid hbut; have HX6 := hid hx6; have HR5 := hid (rbox_but HR.out hbut hne); have f5 := rbox_frozen HR5.out 4; have f6 := rbox_frozen HR5.out 5; have g5 := rbox_cell HR5.out 4 rfl; have g6 := rbox_cell HR5.out 5 rfl; clear hbut hx6)
  go_ret
  have hB1 : RBox BR { r with m := { r.m with da := a5 } } y (w5.setCell ⟨BR, 4, none⟩ (.int .u32 (a5 : Int))) := heap_setCell_same w5 BR 4 _ _ _ HR5.out
  have hBR : RBox BR { r with m := { r.m with da := a5, dl := (m5 : Int) } } y ((w5.setCell ⟨BR, 4, none⟩ (.int .u32 (a5 : Int))).setCell ⟨BR, 5, none⟩ (.int .i64 (m5 : Int))) := heap_setCell_same _ BR 5 _ _ _ hB1
  refine ⟨((But2.fst HBut.out).trans (But2.snd But.set)).trans (But2.snd But.set), rfl, ?_⟩
  rcases HX6.out with ⟨hv, hp6⟩ | ⟨hv, hp6⟩
  · refine ⟨k + 1, _, y, hBR, .inl ⟨by simp only [clauseI, withP, hv], (hp6.other But.set HR5.out (by decide) (by decide)).other But.set hB1 (by decide) (by decide), ?_⟩⟩
    exact rown_but (rown_but (rown_but HO.out HBut.out HP.out.box (by decide)) But.set HR5.out (by decide)) But.set hB1 (by decide)
  · exact ⟨k, _, y, hBR, .inr ⟨by simp only [clauseI, withP, hv], (hp6.other But.set HR5.out (by decide) (by decide)).other But.set hB1 (by decide) (by decide)⟩⟩
theorem clause_7 (BP BR : Nat) (A : Option Addr) (n c : Nat) (l : List Tok) (k : Nat) (r : Rul) (y : WSl) (w : World) (h : PSt BP A n c l k false w) (hr : RBox BR r y w) (ho : ROwn w r.x y) (hne : BR ≠ BP) :
    Calls Tryz.prog 43 #[.pointer (some ⟨BP, 0, none⟩), .string ⟨#[112, 114, 111, 116, 111]⟩, .pointer (some ⟨BR, 0, none⟩)] w (ClAns BP BR A n c l k 7 r w) := by
  have HN := hid (pnum_any BP A n c l k w h)
  have HR := hid hr
  have HO := hid ho
  have HP := hid h
  clear h hr ho
  go_enter Tryz.func43, Tryz.ntmps43
  go_wp2_with (go_at_call 41; (with_reducible refine HN.out.mono ?_); intro e' w5 hN; obtain ⟨x, k6, b6, rfl, hbut, hp6, hx6⟩ := num_cases hN; have HBut := hid hbut; have HP6 := hid hp6; have HX6 := hid hx6; have HR5 := hid (rbox_but HR.out hbut hne); have f5 := rbox_frozen HR5.out 6; have g5 := rbox_cell HR5.out 6 rfl; clear hN hbut hp6 hx6)
  go_ret
  have hBR : RBox BR { r with m := { r.m with pr := x } } y (w5.setCell ⟨BR, 6, none⟩ (.int .i64 x)) := heap_setCell_same w5 BR 6 _ _ _ HR5.out
  refine ⟨(But2.fst HBut.out).trans (But2.snd But.set), rfl, k6, _, y, hBR, ?_⟩
  rcases HX6.out with ⟨rfl, v, hv, rfl, rfl⟩ | ⟨rfl, hv, rfl⟩
  · refine .inl ⟨by simp only [clauseI, withN, (num1_at hv).1], HP6.out.other But.set HR5.out (by decide) (by decide), ?_⟩
    have h1 := rown_but (rown_but HO.out HBut.out HP.out.box (by decide)) (But.set (j := 6) (u := .int .i64 (v : Int))) HR5.out (by decide)
    exact ⟨h1.via, h1.nds, h1.lks, h1.cls⟩
  · exact .inr ⟨by simp only [clauseI, withN, num1_bad hv], HP6.out.other But.set HR5.out (by decide) (by decide)⟩
theorem clause_8 (BP BR : Nat) (A : Option Addr) (n c : Nat) (l : List Tok) (k : Nat) (r : Rul) (y : WSl) (w : World) (h : PSt BP A n c l k false w) (hr : RBox BR r y w) (ho : ROwn w r.x y) (hne : BR ≠ BP) :
    Calls Tryz.prog 43 #[.pointer (some ⟨BP, 0, none⟩), .string ⟨#[115, 112, 111, 114, 116]⟩, .pointer (some ⟨BR, 0, none⟩)] w (ClAns BP BR A n c l k 8 r w) := by
  have HN := hid (pnum_any BP A n c l k w h)
  have HR := hid hr
  have HO := hid ho
  have HP := hid h
  clear h hr ho
  go_enter Tryz.func43, Tryz.ntmps43
  go_wp2_with (go_at_call 41; (with_reducible refine HN.out.mono ?_); intro e' w5 hN; obtain ⟨x, k6, b6, rfl, hbut, hp6, hx6⟩ := num_cases hN; have HBut := hid hbut; have HP6 := hid hp6; have HX6 := hid hx6; have HR5 := hid (rbox_but HR.out hbut hne); have f5 := rbox_frozen HR5.out 7; have g5 := rbox_cell HR5.out 7 rfl; clear hN hbut hp6 hx6)
  go_ret
  have hBR : RBox BR { r with m := { r.m with sp := x } } y (w5.setCell ⟨BR, 7, none⟩ (.int .i64 x)) := heap_setCell_same w5 BR 7 _ _ _ HR5.out
  refine ⟨(But2.fst HBut.out).trans (But2.snd But.set), rfl, k6, _, y, hBR, ?_⟩
  rcases HX6.out with ⟨rfl, v, hv, rfl, rfl⟩ | ⟨rfl, hv, rfl⟩
  · refine .inl ⟨by simp only [clauseI, withN, (num1_at hv).1], HP6.out.other But.set HR5.out (by decide) (by decide), ?_⟩
    have h1 := rown_but (rown_but HO.out HBut.out HP.out.box (by decide)) (But.set (j := 7) (u := .int .i64 (v : Int))) HR5.out (by decide)
    exact ⟨h1.via, h1.nds, h1.lks, h1.cls⟩
  · exact .inr ⟨by simp only [clauseI, withN, num1_bad hv], HP6.out.other But.set HR5.out (by decide) (by decide)⟩
theorem clause_9 (BP BR : Nat) (A : Option Addr) (n c : Nat) (l : List Tok) (k : Nat) (r : Rul) (y : WSl) (w : World) (h : PSt BP A n c l k false w) (hr : RBox BR r y w) (ho : ROwn w r.x y) (hne : BR ≠ BP) :
    Calls Tryz.prog 43 #[.pointer (some ⟨BP, 0, none⟩), .string ⟨#[100, 112, 111, 114, 116]⟩, .pointer (some ⟨BR, 0, none⟩)] w (ClAns BP BR A n c l k 9 r w) := by
  have HN := hid (pnum_any BP A n c l k w h)
  have HR := hid hr
  have HO := hid ho
  have HP := hid h
  clear h hr ho
  go_enter Tryz.func43, Tryz.ntmps43
  go_wp2_with (go_at_call 41; (with_reducible refine HN.out.mono ?_); intro e' w5 hN; obtain ⟨x, k6, b6, rfl, hbut, hp6, hx6⟩ := num_cases hN; have HBut := hid hbut; have HP6 := hid hp6; have HX6 := hid hx6; have HR5 := hid (rbox_but HR.out hbut hne); have f5 := rbox_frozen HR5.out 8; have g5 := rbox_cell HR5.out 8 rfl; clear hN hbut hp6 hx6)
  go_ret
  have hBR : RBox BR { r with m := { r.m with dp := x } } y (w5.setCell ⟨BR, 8, none⟩ (.int .i64 x)) := heap_setCell_same w5 BR 8 _ _ _ HR5.out
  refine ⟨(But2.fst HBut.out).trans (But2.snd But.set), rfl, k6, _, y, hBR, ?_⟩
  rcases HX6.out with ⟨rfl, v, hv, rfl, rfl⟩ | ⟨rfl, hv, rfl⟩
  · refine .inl ⟨by simp only [clauseI, withN, (num1_at hv).1], HP6.out.other But.set HR5.out (by decide) (by decide), ?_⟩
    have h1 := rown_but (rown_but HO.out HBut.out HP.out.box (by decide)) (But.set (j := 8) (u := .int .i64 (v : Int))) HR5.out (by decide)
    exact ⟨h1.via, h1.nds, h1.lks, h1.cls⟩
  · exact .inr ⟨by simp only [clauseI, withN, num1_bad hv], HP6.out.other But.set HR5.out (by decide) (by decide)⟩
theorem clause_10 (BP BR : Nat) (A : Option Addr) (n c : Nat) (l : List Tok) (k : Nat) (r : Rul) (y : WSl) (w : World) (h : PSt BP A n c l k false w) (hr : RBox BR r y w) (ho : ROwn w r.x y) :
    Calls Tryz.prog 43 #[.pointer (some ⟨BP, 0, none⟩), .string ⟨#[115, 116, 114, 105, 99, 116]⟩, .pointer (some ⟨BR, 0, none⟩)] w (ClAns BP BR A n c l k 10 r w) := by
  have HR := hid hr
  have HO := hid ho
  have HP := hid h
  have f5 := rbox_frozen hr 16
  have g5 := rbox_cell hr 16 rfl
  clear h hr ho
  go_enter Tryz.func43, Tryz.ntmps43
  go_wp2_with fail
  go_ret
  have hBR : RBox BR { r with strict := true } y (w.setCell ⟨BR, 16, none⟩ (.bool true)) := heap_setCell_same w BR 16 _ _ _ HR.out
  exact ⟨But2.snd But.set, rfl, k, _, y, hBR, .inl ⟨rfl, HP.out.other But.set HR.out (by decide) (by decide), rown_but HO.out But.set HR.out (by decide)⟩⟩
theorem clause_11 (BP BR : Nat) (A : Option Addr) (n c : Nat) (l : List Tok) (k : Nat) (r : Rul) (y : WSl) (w : World) (h : PSt BP A n c l k false w) (hr : RBox BR r y w) (ho : ROwn w r.x y) (hne : BR ≠ BP) :
    Calls Tryz.prog 43 #[.pointer (some ⟨BP, 0, none⟩), .string ⟨#[102, 114, 111, 109]⟩, .pointer (some ⟨BR, 0, none⟩)] w (ClAns BP BR A n c l k 11 r w) := by
  have HN := hid (pnum_any BP A n c l k w h)
  have HR := hid hr
  have HO := hid ho
  have HP := hid h
  clear h hr ho
  go_enter Tryz.func43, Tryz.ntmps43
  go_wp2_with (go_at_call 41; (with_reducible refine HN.out.mono ?_); intro e' w5 hN; obtain ⟨x, k6, b6, rfl, hbut, hp6, hx6⟩ := num_cases hN; have HBut := hid hbut; have HP6 := hid hp6; have HX6 := hid hx6; have HR5 := hid (rbox_but HR.out hbut hne); have f5 := rbox_frozen HR5.out 9; have g5 := rbox_cell HR5.out 9 rfl; clear hN hbut hp6 hx6)
  go_ret
  have hBR : RBox BR { r with x := { r.x with frm := x } } y (w5.setCell ⟨BR, 9, none⟩ (.int .i64 x)) := heap_setCell_same w5 BR 9 _ _ _ HR5.out
  refine ⟨(But2.fst HBut.out).trans (But2.snd But.set), rfl, k6, _, y, hBR, ?_⟩
  rcases HX6.out with ⟨rfl, v, hv, rfl, rfl⟩ | ⟨rfl, hv, rfl⟩
  · refine .inl ⟨by simp only [clauseI, withN, (num1_at hv).1], HP6.out.other But.set HR5.out (by decide) (by decide), ?_⟩
    have h1 := rown_but (rown_but HO.out HBut.out HP.out.box (by decide)) (But.set (j := 9) (u := .int .i64 (v : Int))) HR5.out (by decide)
    exact ⟨h1.via, h1.nds, h1.lks, h1.cls⟩
  · exact .inr ⟨by simp only [clauseI, withN, num1_bad hv], HP6.out.other But.set HR5.out (by decide) (by decide)⟩
theorem clause_12 (BP BR : Nat) (A : Option Addr) (n c : Nat) (l : List Tok) (k : Nat) (r : Rul) (y : WSl) (w : World) (h : PSt BP A n c l k false w) (hr : RBox BR r y w) (ho : ROwn w r.x y) (hne : BR ≠ BP) :
    Calls Tryz.prog 43 #[.pointer (some ⟨BP, 0, none⟩), .string ⟨#[116, 111]⟩, .pointer (some ⟨BR, 0, none⟩)] w (ClAns BP BR A n c l k 12 r w) := by
  have HN := hid (pnum_any BP A n c l k w h)
  have HR := hid hr
  have HO := hid ho
  have HP := hid h
  clear h hr ho
  go_enter Tryz.func43, Tryz.ntmps43
  go_wp2_with (go_at_call 41; (with_reducible refine HN.out.mono ?_); intro e' w5 hN; obtain ⟨x, k6, b6, rfl, hbut, hp6, hx6⟩ := num_cases hN; have HBut := hid hbut; have HP6 := hid hp6; have HX6 := hid hx6; have HR5 := hid (rbox_but HR.out hbut hne); have f5 := rbox_frozen HR5.out 10; have g5 := rbox_cell HR5.out 10 rfl; clear hN hbut hp6 hx6)
  go_ret
  have hBR : RBox BR { r with x := { r.x with too := x } } y (w5.setCell ⟨BR, 10, none⟩ (.int .i64 x)) := heap_setCell_same w5 BR 10 _ _ _ HR5.out
  refine ⟨(But2.fst HBut.out).trans (But2.snd But.set), rfl, k6, _, y, hBR, ?_⟩
  rcases HX6.out with ⟨rfl, v, hv, rfl, rfl⟩ | ⟨rfl, hv, rfl⟩
  · refine .inl ⟨by simp only [clauseI, withN, (num1_at hv).1], HP6.out.other But.set HR5.out (by decide) (by decide), ?_⟩
    have h1 := rown_but (rown_but HO.out HBut.out HP.out.box (by decide)) (But.set (j := 10) (u := .int .i64 (v : Int))) HR5.out (by decide)
    exact ⟨h1.via, h1.nds, h1.lks, h1.cls⟩
  · exact .inr ⟨by simp only [clauseI, withN, num1_bad hv], HP6.out.other But.set HR5.out (by decide) (by decide)⟩
theorem wordIx_lt {s : List UInt8} (h : wordIx s ≠ 13) : wordIx s < 13 ∧ wordL (wordIx s) = s := by
  unfold wordIx at h ⊢
  cases hf : (List.range 13).find? fun i => wordL i == s with
  | none => rw [hf] at h; exact absurd rfl h
  | some i =>
    have h1 := List.find?_some hf
    have h2 := List.mem_of_find?_eq_some hf
    simp only [Option.getD_some]
    exact ⟨by simpa using h2, by simpa using h1⟩
theorem wordIx_no {s : List UInt8} (h : wordIx s = 13) (i : Nat) (hi : i < 13) : (s == wordL i) = false := by
  unfold wordIx at h
  cases hf : (List.range 13).find? fun i => wordL i == s with
  | none =>
    rw [List.find?_eq_none] at hf
    have := hf i (by simpa using hi)
    rw [beq_eq_false_iff_ne]
    intro e
    rw [e] at this
    simp at this
  | some j =>
    rw [hf] at h
    have h2 := List.mem_of_find?_eq_some hf
    simp at h h2
    omega
theorem clause_no (BP BR : Nat) (s : List UInt8) (w : World) (h : wordIx s = 13) :
    Calls Tryz.prog 43 #[.pointer (some ⟨BP, 0, none⟩), .string (txt s), .pointer (some ⟨BR, 0, none⟩)] w fun e w' => e = .returned (.bool false) ∧ w = w' := by
  have t11 : ((txt s).toList == [102, 114, 111, 109]) = false := by rw [txt_list]; exact wordIx_no h 11 (by omega)
  have t12 : ((txt s).toList == [116, 111]) = false := by rw [txt_list]; exact wordIx_no h 12 (by omega)
  have t0 : ((txt s).toList == [118, 105, 97]) = false := by rw [txt_list]; exact wordIx_no h 0 (by omega)
  have t1 : ((txt s).toList == [97, 118, 111, 105, 100, 45, 110, 111, 100, 101, 115]) = false := by rw [txt_list]; exact wordIx_no h 1 (by omega)
  have t2 : ((txt s).toList == [97, 118, 111, 105, 100, 45, 108, 105, 110, 107, 115]) = false := by rw [txt_list]; exact wordIx_no h 2 (by omega)
  have t3 : ((txt s).toList == [97, 118, 111, 105, 100, 45, 99, 111, 108, 111, 117, 114, 115]) = false := by rw [txt_list]; exact wordIx_no h 3 (by omega)
  have t4 : ((txt s).toList == [99, 111, 115, 116]) = false := by rw [txt_list]; exact wordIx_no h 4 (by omega)
  have t5 : ((txt s).toList == [115, 114, 99]) = false := by rw [txt_list]; exact wordIx_no h 5 (by omega)
  have t6 : ((txt s).toList == [100, 115, 116]) = false := by rw [txt_list]; exact wordIx_no h 6 (by omega)
  have t7 : ((txt s).toList == [112, 114, 111, 116, 111]) = false := by rw [txt_list]; exact wordIx_no h 7 (by omega)
  have t8 : ((txt s).toList == [115, 112, 111, 114, 116]) = false := by rw [txt_list]; exact wordIx_no h 8 (by omega)
  have t9 : ((txt s).toList == [100, 112, 111, 114, 116]) = false := by rw [txt_list]; exact wordIx_no h 9 (by omega)
  have t10 : ((txt s).toList == [115, 116, 114, 105, 99, 116]) = false := by rw [txt_list]; exact wordIx_no h 10 (by omega)
  clear h
  go_enter Tryz.func43, Tryz.ntmps43
  go_wp2_with fail
  go_ret
  exact ⟨rfl, rfl⟩
theorem clause_any (BP BR : Nat) (A : Option Addr) (n c : Nat) (l : List Tok) (k : Nat) (r : Rul) (y : WSl) (s : List UInt8) (w : World) (h : PSt BP A n c l k false w) (hr : RBox BR r y w) (ho : ROwn w r.x y) (hne : BR ≠ BP) (hs : wordIx s ≠ 13) :
    Calls Tryz.prog 43 #[.pointer (some ⟨BP, 0, none⟩), .string (txt s), .pointer (some ⟨BR, 0, none⟩)] w (ClAns BP BR A n c l k (wordIx s) r w) := by
  obtain ⟨h1, h2⟩ := wordIx_lt hs
  obtain ⟨i, hi⟩ : ∃ i, wordIx s = i := ⟨_, rfl⟩
  rw [hi] at h1 h2 ⊢
  subst h2
  rcases (show i = 0 ∨ i = 1 ∨ i = 2 ∨ i = 3 ∨ i = 4 ∨ i = 5 ∨ i = 6 ∨ i = 7 ∨ i = 8 ∨ i = 9 ∨ i = 10 ∨ i = 11 ∨ i = 12 by omega) with rfl | rfl | rfl | rfl | rfl | rfl | rfl | rfl | rfl | rfl | rfl | rfl | rfl
  · exact clause_0 BP BR A n c l k r y w h hr ho hne
  · exact clause_1 BP BR A n c l k r y w h hr ho hne
  · exact clause_2 BP BR A n c l k r y w h hr ho hne
  · exact clause_3 BP BR A n c l k r y w h hr ho hne
  · exact clause_4 BP BR A n c l k r y w h hr ho hne
  · exact clause_5 BP BR A n c l k r y w h hr ho hne
  · exact clause_6 BP BR A n c l k r y w h hr ho hne
  · exact clause_7 BP BR A n c l k r y w h hr ho hne
  · exact clause_8 BP BR A n c l k r y w h hr ho hne
  · exact clause_9 BP BR A n c l k r y w h hr ho hne
  · exact clause_10 BP BR A n c l k r y w h hr ho
  · exact clause_11 BP BR A n c l k r y w h hr ho hne
  · exact clause_12 BP BR A n c l k r y w h hr ho hne
end Go.Proofs.YtcmkcloapenpnaaGreatDoor
