/- PrefixTells. -/
import Derived.Test.YtcmkcloapenpnaaDoorPfF
import Derived.Deep.RegionHeld3
namespace Go.Proofs.YtcmkcloapenpnaaDoor
open Go.RowKit
set_option maxHeartbeats 12800000
set_option maxRecDepth 100000
/-- Three boxes: a prefix's, a match's and a flow's. -/
def HeldP (w : World) (a : Nat) (n : Int) (m : Mat) (t : Flw) (w' : World) : Prop :=
  Below w.heap.size w w' ∧ w'.heap[w.heap.size]? = some (.cells #[.int .u32 (a : Int), .int .i64 n] 24 (0, 0)) ∧ w'.heap[w.heap.size + 1]? = some (.cells #[.int .u32 (m.sa : Int), .int .i64 m.sl, .int .u32 (m.da : Int), .int .i64 m.dl, .int .i64 m.pr, .int .i64 m.sp, .int .i64 m.dp] 26 (0, 0)) ∧ w'.heap[w.heap.size + 2]? = some (.cells #[.int .u32 (t.s : Int), .int .u32 (t.d : Int), .int .i64 t.p, .int .i64 t.sp, .int .i64 t.dp] 28 (0, 0))
theorem HeldP.start (w : World) (a : Nat) (n : Int) (m : Mat) (t : Flw) : HeldP w a n m t (((w.alloc (.cells #[.int .u32 (a : Int), .int .i64 n] 24)).alloc (.cells #[.int .u32 (m.sa : Int), .int .i64 m.sl, .int .u32 (m.da : Int), .int .i64 m.dl, .int .i64 m.pr, .int .i64 m.sp, .int .i64 m.dp] 26)).alloc (.cells #[.int .u32 (t.s : Int), .int .u32 (t.d : Int), .int .i64 t.p, .int .i64 t.sp, .int .i64 t.dp] 28)) := by
  have b1 : Below w.heap.size w (w.alloc (.cells #[.int .u32 (a : Int), .int .i64 n] 24)) := Below.alloc (Below.refl _ _) (Nat.le_refl _) _
  have b2 := b1.alloc b1.size (.cells #[.int .u32 (m.sa : Int), .int .i64 m.sl, .int .u32 (m.da : Int), .int .i64 m.dl, .int .i64 m.pr, .int .i64 m.sp, .int .i64 m.dp] 26)
  have c1 : Below (w.heap.size + 1) (w.alloc (.cells #[.int .u32 (a : Int), .int .i64 n] 24)) ((w.alloc (.cells #[.int .u32 (a : Int), .int .i64 n] 24)).alloc (.cells #[.int .u32 (m.sa : Int), .int .i64 m.sl, .int .u32 (m.da : Int), .int .i64 m.dl, .int .i64 m.pr, .int .i64 m.sp, .int .i64 m.dp] 26)) := Below.alloc (Below.refl _ _) (by simp) _
  have c2 : Below (w.heap.size + 2) ((w.alloc (.cells #[.int .u32 (a : Int), .int .i64 n] 24)).alloc (.cells #[.int .u32 (m.sa : Int), .int .i64 m.sl, .int .u32 (m.da : Int), .int .i64 m.dl, .int .i64 m.pr, .int .i64 m.sp, .int .i64 m.dp] 26)) (((w.alloc (.cells #[.int .u32 (a : Int), .int .i64 n] 24)).alloc (.cells #[.int .u32 (m.sa : Int), .int .i64 m.sl, .int .u32 (m.da : Int), .int .i64 m.dl, .int .i64 m.pr, .int .i64 m.sp, .int .i64 m.dp] 26)).alloc (.cells #[.int .u32 (t.s : Int), .int .u32 (t.d : Int), .int .i64 t.p, .int .i64 t.sp, .int .i64 t.dp] 28)) := Below.alloc (Below.refl _ _) (by simp) _
  have h1 := heap_alloc_new (w.alloc (.cells #[.int .u32 (a : Int), .int .i64 n] 24)) (.cells #[.int .u32 (m.sa : Int), .int .i64 m.sl, .int .u32 (m.da : Int), .int .i64 m.dl, .int .i64 m.pr, .int .i64 m.sp, .int .i64 m.dp] 26)
  have h2 := heap_alloc_new ((w.alloc (.cells #[.int .u32 (a : Int), .int .i64 n] 24)).alloc (.cells #[.int .u32 (m.sa : Int), .int .i64 m.sl, .int .u32 (m.da : Int), .int .i64 m.dl, .int .i64 m.pr, .int .i64 m.sp, .int .i64 m.dp] 26)) (.cells #[.int .u32 (t.s : Int), .int .u32 (t.d : Int), .int .i64 t.p, .int .i64 t.sp, .int .i64 t.dp] 28)
  refine ⟨b2.alloc b2.size _, box_below (box_below (heap_alloc_new w _) c1 (by omega)) c2 (by omega), box_below (by simpa using h1) c2 (by omega), ?_⟩
  simpa using h2
theorem HeldP.lt {w w' : World} {a : Nat} {n : Int} {m : Mat} {t : Flw} (h : HeldP w a n m t w') : w.heap.size + 2 < w'.heap.size := (Array.getElem?_eq_some_iff.1 h.2.2.2).1
theorem HeldP.next {w w' w'' : World} {a : Nat} {n : Int} {m : Mat} {t : Flw} (h : HeldP w a n m t w') (hb : Below w'.heap.size w' w'') : HeldP w a n m t w'' := by
  have hl := h.lt
  exact ⟨h.1.trans (hb.mono h.1.size), box_below h.2.1 hb (by omega), box_below h.2.2.1 hb (by omega), box_below h.2.2.2 hb hl⟩
theorem HeldP.cells {w w' : World} {a : Nat} {n : Int} {m : Mat} {t : Flw} (h : HeldP w a n m t w') : w'.cell? ⟨w.heap.size, 0, none⟩ = some (.int .u32 (a : Int)) ∧ w'.cell? ⟨w.heap.size, 1, none⟩ = some (.int .i64 n) ∧ w'.cell? ⟨w.heap.size + 1, 0, none⟩ = some (.int .u32 (m.sa : Int)) ∧ w'.cell? ⟨w.heap.size + 1, 1, none⟩ = some (.int .i64 m.sl) ∧ w'.cell? ⟨w.heap.size + 1, 2, none⟩ = some (.int .u32 (m.da : Int)) ∧ w'.cell? ⟨w.heap.size + 1, 3, none⟩ = some (.int .i64 m.dl) ∧ w'.cell? ⟨w.heap.size + 1, 4, none⟩ = some (.int .i64 m.pr) ∧ w'.cell? ⟨w.heap.size + 1, 5, none⟩ = some (.int .i64 m.sp) ∧ w'.cell? ⟨w.heap.size + 1, 6, none⟩ = some (.int .i64 m.dp) ∧ w'.cell? ⟨w.heap.size + 2, 0, none⟩ = some (.int .u32 (t.s : Int)) ∧ w'.cell? ⟨w.heap.size + 2, 1, none⟩ = some (.int .u32 (t.d : Int)) ∧ w'.cell? ⟨w.heap.size + 2, 2, none⟩ = some (.int .i64 t.p) ∧ w'.cell? ⟨w.heap.size + 2, 3, none⟩ = some (.int .i64 t.sp) ∧ w'.cell? ⟨w.heap.size + 2, 4, none⟩ = some (.int .i64 t.dp) := by
  refine ⟨?_, ?_, ?_, ?_, ?_, ?_, ?_, ?_, ?_, ?_, ?_, ?_, ?_, ?_⟩
  all_goals first
    | (rw [cell_of_row _ _ _ _ _ _ h.2.1]; rfl)
    | (rw [cell_of_row _ _ _ _ _ _ h.2.2.1]; rfl)
    | (rw [cell_of_row _ _ _ _ _ _ h.2.2.2]; rfl)
/-- And two more: what was read. -/
def HeldX (w : World) (a : Nat) (n : Int) (m : Mat) (t : Flw) (X Y : Nat) (xa xn : Int) (w' : World) : Prop :=
  HeldP w a n m t w' ∧ w'.heap[X]? = some (.cells #[.int .u32 xa, .int .i64 xn] 24 (0, 0)) ∧ w'.heap[Y]? = some (.cells #[.int .u32 xa, .int .i64 xn] 24 (0, 0))
theorem HeldX.next {w w' w'' : World} {a : Nat} {n : Int} {m : Mat} {t : Flw} {X Y : Nat} {xa xn : Int} (h : HeldX w a n m t X Y xa xn w') (hb : Below w'.heap.size w' w'') : HeldX w a n m t X Y xa xn w'' :=
  ⟨h.1.next hb, box_below h.2.1 hb (Array.getElem?_eq_some_iff.1 h.2.1).1, box_below h.2.2 hb (Array.getElem?_eq_some_iff.1 h.2.2).1⟩
theorem HeldX.drew {w w' : World} {a : Nat} {n : Int} {m : Mat} {t : Flw} {X Y : Nat} {xa xn : Int} (h : HeldX w a n m t X Y xa xn w') : HeldX w a n m t X Y xa xn w'.drew := ⟨⟨h.1.1.drew, h.1.2⟩, h.2⟩
theorem HeldX.cells {w w' : World} {a : Nat} {n : Int} {m : Mat} {t : Flw} {X Y : Nat} {xa xn : Int} (h : HeldX w a n m t X Y xa xn w') : w'.cell? ⟨w.heap.size, 0, none⟩ = some (.int .u32 (a : Int)) ∧ w'.cell? ⟨w.heap.size, 1, none⟩ = some (.int .i64 n) ∧ w'.cell? ⟨w.heap.size + 1, 0, none⟩ = some (.int .u32 (m.sa : Int)) ∧ w'.cell? ⟨w.heap.size + 1, 1, none⟩ = some (.int .i64 m.sl) ∧ w'.cell? ⟨w.heap.size + 1, 2, none⟩ = some (.int .u32 (m.da : Int)) ∧ w'.cell? ⟨w.heap.size + 1, 3, none⟩ = some (.int .i64 m.dl) ∧ w'.cell? ⟨w.heap.size + 1, 4, none⟩ = some (.int .i64 m.pr) ∧ w'.cell? ⟨w.heap.size + 1, 5, none⟩ = some (.int .i64 m.sp) ∧ w'.cell? ⟨w.heap.size + 1, 6, none⟩ = some (.int .i64 m.dp) ∧ w'.cell? ⟨w.heap.size + 2, 0, none⟩ = some (.int .u32 (t.s : Int)) ∧ w'.cell? ⟨w.heap.size + 2, 1, none⟩ = some (.int .u32 (t.d : Int)) ∧ w'.cell? ⟨w.heap.size + 2, 2, none⟩ = some (.int .i64 t.p) ∧ w'.cell? ⟨w.heap.size + 2, 3, none⟩ = some (.int .i64 t.sp) ∧ w'.cell? ⟨w.heap.size + 2, 4, none⟩ = some (.int .i64 t.dp) ∧ w'.cell? ⟨X, 0, none⟩ = some (.int .u32 xa) ∧ w'.cell? ⟨X, 1, none⟩ = some (.int .i64 xn) ∧ w'.cell? ⟨Y, 0, none⟩ = some (.int .u32 xa) ∧ w'.cell? ⟨Y, 1, none⟩ = some (.int .i64 xn) := by
  obtain ⟨c0, c1, c2, c3, c4, c5, c6, c7, c8, c9, c10, c11, c12, c13⟩ := h.1.cells
  refine ⟨c0, c1, c2, c3, c4, c5, c6, c7, c8, c9, c10, c11, c12, c13, ?_, ?_, ?_, ?_⟩
  all_goals first
    | (rw [cell_of_row _ _ _ _ _ _ h.2.1]; rfl)
    | (rw [cell_of_row _ _ _ _ _ _ h.2.2]; rfl)
theorem HeldX.calls {w : World} {a : Nat} {n : Int} {m : Mat} {t : Flw} {X Y : Nat} {xa xn : Int} {f : Nat} {args : Array Value} {R : Ending → Prop} {w' : World} (h : HeldX w a n m t X Y xa xn w') (hc : Calls Tryd.prog f args w' fun e w'' => R e ∧ Below w'.heap.size w' w'') :
    Calls Tryd.prog f args w' fun e w'' => R e ∧ HeldX w a n m t X Y xa xn w'' := hc.mono fun _ _ ⟨h1, h2⟩ => ⟨h1, h.next h2⟩
theorem readV_form (o : Option (Nat × Nat)) : ∃ (xa xn : Int) (b : Bool), readV o = .tuple #[.agg #[.int .u32 xa, .int .i64 xn], .bool b] := by
  cases o with
  | none => exact ⟨0, 0, false, rfl⟩
  | some p => exact ⟨_, _, true, rfl⟩
theorem prefTells_out {L : World → Prop} (h : PrefSpec L 10 12 14 16) (s : List UInt8) (a : Nat) (n : Int) (b : Nat) (m : Mat) (t : Flw) (w : World) (hL : L w) (hs : 200 < s.length) (hs2 : s.length ≤ 9223372036854775807) :
    Calls Tryd.prog 3 #[.string (txt s), .agg #[.int .u32 (a : Int), .int .i64 n], .int .u32 (b : Int), .agg #[.int .u32 (m.sa : Int), .int .i64 m.sl, .int .u32 (m.da : Int), .int .i64 m.dl, .int .i64 m.pr, .int .i64 m.sp, .int .i64 m.dp], .agg #[.int .u32 (t.s : Int), .int .u32 (t.d : Int), .int .i64 t.p, .int .i64 t.sp, .int .i64 t.dp]] w fun e w' => e = .returned (.bool true) ∧ Below w.heap.size w w' := by
  have hS := HeldP.start w a n m t
  have hS1 := hid hS.1
  have HK := hid (fun W hb => h.on w W hL hb)
  have HA := hid (fun W hW => alive_any h W hW)
  have hZ : (txt s).size = s.length := rfl
  have t1 : decide ((200 : Int) < (s.length : Int)) = true := decide_eq_true (by omega)
  clear h
  go_enter Tryd.func3, Tryd.ntmps3
  go_wp2_with (go_at_call 9; (with_reducible refine (HA.out _ (HK.out _ hS1.out)).mono ?_); rintro e' w1 ⟨rfl, hb1⟩; have h1 := hS.next hb1; have h1b := hid h1.1)
  go_ret
  exact ⟨rfl, h1.1⟩
theorem prefTells_in {L : World → Prop} (h : PrefSpec L 10 12 14 16) (s : List UInt8) (a : Nat) (n : Int) (b : Nat) (m : Mat) (t : Flw) (w : World) (hL : L w) (hs : s.length ≤ 200) (ha : a < 4294967296) (hb : b < 4294967296) (hn : -9223372036854775808 ≤ n ∧ n ≤ 9223372036854775807) (h1 : m.sa < 4294967296) (h2 : m.da < 4294967296) (h3 : t.s < 4294967296) (h4 : t.d < 4294967296) (h5 : -9223372036854775808 ≤ m.sl ∧ m.sl ≤ 9223372036854775807) (h6 : -9223372036854775808 ≤ m.dl ∧ m.dl ≤ 9223372036854775807) :
    Calls Tryd.prog 3 #[.string (txt s), .agg #[.int .u32 (a : Int), .int .i64 n], .int .u32 (b : Int), .agg #[.int .u32 (m.sa : Int), .int .i64 m.sl, .int .u32 (m.da : Int), .int .i64 m.dl, .int .i64 m.pr, .int .i64 m.sp, .int .i64 m.dp], .agg #[.int .u32 (t.s : Int), .int .u32 (t.d : Int), .int .i64 t.p, .int .i64 t.sp, .int .i64 t.dp]] w fun e w' => e = .returned (.bool true) ∧ Below w.heap.size w w' := by
  have hS := HeldP.start w a n m t
  have hS1 := hid hS.1
  have HK := hid (fun W hb => h.on w W hL hb)
  have HA := hid (fun W hW => alive_any h W hW)
  have hZ : (txt s).size = s.length := rfl
  have t1 : decide ((200 : Int) < (s.length : Int)) = false := decide_eq_false (by omega)
  obtain ⟨xa, xn, xb, hx⟩ := readV_form (readS s)
  have HR1 := hid (fun W hW => h.read s W hW (by omega))
  have HR2 := hid (fun W => read_any s W (by omega))
  simp only [hx] at HR1 HR2
  obtain ⟨bi, hbi⟩ : ∃ x, inS a n b = x := ⟨_, rfl⟩
  obtain ⟨bm, hbm⟩ : ∃ x, matchS m t = x := ⟨_, rfl⟩
  obtain ⟨S, hSh⟩ : ∃ x, showS a n = x := ⟨_, rfl⟩
  have HS1 := hid (fun X Y (W : World) (hh : HeldX w a n m t X Y xa xn W) => hh.calls (hSh ▸ h.shows a n W (h.on w W hL hh.1.1) ha hn))
  have HS2 := hid (fun X Y (W : World) (hh : HeldX w a n m t X Y xa xn W) => hh.calls (hSh ▸ show_any a n W ha))
  have HI1 := hid (fun X Y (W : World) (hh : HeldX w a n m t X Y xa xn W) => hh.calls (hbi ▸ h.ins a n b W ha hb hn))
  have HI2 := hid (fun X Y (W : World) (hh : HeldX w a n m t X Y xa xn W) => hh.calls (hbi ▸ in_any a n b W ha hb))
  have HM1 := hid (fun X Y (W : World) (hh : HeldX w a n m t X Y xa xn W) => hh.calls (hbm ▸ h.mats m t W h1 h2 h3 h4 h5 h6))
  have HM2 := hid (fun X Y (W : World) (hh : HeldX w a n m t X Y xa xn W) => hh.calls (hbm ▸ matches_any m t W h1 h2 h3 h4))
  clear h hx hbi hbm hSh ha hb hn h1 h2 h3 h4 h5 h6
  go_enter Tryd.func3, Tryd.ntmps3
  go_wp2_with (first
    | (go_at_call 9; (with_reducible refine (HA.out _ (HK.out _ hS1.out)).mono ?_); rintro e' w1 ⟨rfl, hb1⟩; have h1 := hS.next hb1; have h1b := hid h1.1)
    | (go_at_call 10; (with_reducible refine (HR1.out _ (HK.out _ h1b.out)).mono ?_); rintro e' w2 ⟨rfl, hb2⟩; have h2 := h1.next hb2; have h3 := h2.next ((Below.refl w2.heap.size w2).alloc (Nat.le_refl _) (.cells #[.int .u32 xa, .int .i64 xn] 24)))
    | (go_at_call 11; (with_reducible refine (HR2.out _).mono ?_); rintro e' w4 ⟨rfl, hb4⟩; have h4 := h3.next hb4; have h5 := h4.next ((Below.refl w4.heap.size w4).alloc (Nat.le_refl _) (.cells #[.int .u32 xa, .int .i64 xn] 24)); have hx4 := box_below (heap_alloc_new w2 (.cells #[.int .u32 xa, .int .i64 xn] 24)) hb4 (by simp)))
  have hl4 : w2.heap.size < w4.heap.size := (Array.getElem?_eq_some_iff.1 hx4).1
  have h6 : HeldX w a n m t w2.heap.size w4.heap.size xa xn (w4.alloc (.cells #[.int .u32 xa, .int .i64 xn] 24)) := ⟨h5, box_below hx4 ((Below.refl w4.heap.size w4).alloc (Nat.le_refl _) _) hl4, heap_alloc_new w4 _⟩
  have hXY : w2.heap.size ≠ w4.heap.size := by omega
  obtain ⟨w6, hw6⟩ : ∃ w6, w4.alloc (.cells #[.int .u32 xa, .int .i64 xn] 24) = w6 := ⟨_, rfl⟩
  rw [hw6] at h6 ⊢
  obtain ⟨X, hX⟩ : ∃ X, w2.heap.size = X := ⟨_, rfl⟩
  obtain ⟨Y, hY⟩ : ∃ Y, w4.heap.size = Y := ⟨_, rfl⟩
  rw [hX, hY] at h6
  simp only [hX, hY]
  have h7 := h6.drew
  clear h5 h4 h3 h2 h1 hx4 hb4 hb2 hb1 hw6 hX hY hXY hl4
  obtain ⟨c0, c1, c2, c3, c4, c5, c6, c7, c8, c9, c10, c11, c12, c13, c14, c15, c16, c17⟩ := h6.cells
  obtain ⟨d0, d1, d2, d3, d4, d5, d6, d7, d8, d9, d10, d11, d12, d13, d14, d15, d16, d17⟩ := h7.cells
  go_region_held3 (fun w' => w'.cell? ⟨w.heap.size, 0, none⟩ = some (.int .u32 (a : Int)) ∧ w'.cell? ⟨w.heap.size, 1, none⟩ = some (.int .i64 n) ∧ w'.cell? ⟨w.heap.size + 1, 0, none⟩ = some (.int .u32 (m.sa : Int)) ∧ w'.cell? ⟨w.heap.size + 1, 1, none⟩ = some (.int .i64 m.sl) ∧ w'.cell? ⟨w.heap.size + 1, 2, none⟩ = some (.int .u32 (m.da : Int)) ∧ w'.cell? ⟨w.heap.size + 1, 3, none⟩ = some (.int .i64 m.dl) ∧ w'.cell? ⟨w.heap.size + 1, 4, none⟩ = some (.int .i64 m.pr) ∧ w'.cell? ⟨w.heap.size + 1, 5, none⟩ = some (.int .i64 m.sp) ∧ w'.cell? ⟨w.heap.size + 1, 6, none⟩ = some (.int .i64 m.dp) ∧ w'.cell? ⟨w.heap.size + 2, 0, none⟩ = some (.int .u32 (t.s : Int)) ∧ w'.cell? ⟨w.heap.size + 2, 1, none⟩ = some (.int .u32 (t.d : Int)) ∧ w'.cell? ⟨w.heap.size + 2, 2, none⟩ = some (.int .i64 t.p) ∧ w'.cell? ⟨w.heap.size + 2, 3, none⟩ = some (.int .i64 t.sp) ∧ w'.cell? ⟨w.heap.size + 2, 4, none⟩ = some (.int .i64 t.dp) ∧ w'.cell? ⟨X, 0, none⟩ = some (.int .u32 xa) ∧ w'.cell? ⟨X, 1, none⟩ = some (.int .i64 xn) ∧ w'.cell? ⟨Y, 0, none⟩ = some (.int .u32 xa) ∧ w'.cell? ⟨Y, 1, none⟩ = some (.int .i64 xn))
    (first
      | go_keep
      | exact s13
      | exact s12
      | exact s11
      | exact s10
      | exact s9
      | exact s8)
    (first
      | (go_at_call 12; (with_reducible refine (HS1.out X Y _ h7).mono ?_); rintro e' w8 ⟨rfl, h8⟩; have s8 := h8.cells)
      | (go_at_call 13; (with_reducible refine (HS2.out X Y _ h8).mono ?_); rintro e' w9 ⟨rfl, h9⟩; have s9 := h9.cells)
      | (go_at_call 14; (with_reducible refine (HI1.out X Y _ h9).mono ?_); rintro e' w10 ⟨rfl, h10⟩; have s10 := h10.cells)
      | (go_at_call 15; (with_reducible refine (HI2.out X Y _ h10).mono ?_); rintro e' w11 ⟨rfl, h11⟩; have s11 := h11.cells)
      | (go_at_call 16; (with_reducible refine (HM1.out X Y _ h11).mono ?_); rintro e' w12 ⟨rfl, h12⟩; have s12 := h12.cells)
      | (go_at_call 17; (with_reducible refine (HM2.out X Y _ h12).mono ?_); rintro e' w13 ⟨rfl, h13⟩; have s13 := h13.cells))
  go_wp2_with fail
  go_ret
  exact ⟨rfl, h13.1.1⟩
theorem prefTells_any {L : World → Prop} (h : PrefSpec L 10 12 14 16) (s : List UInt8) (a : Nat) (n : Int) (b : Nat) (m : Mat) (t : Flw) (w : World) (hL : L w) (hs2 : s.length ≤ 9223372036854775807) (ha : a < 4294967296) (hb : b < 4294967296) (hn : -9223372036854775808 ≤ n ∧ n ≤ 9223372036854775807) (h1 : m.sa < 4294967296) (h2 : m.da < 4294967296) (h3 : t.s < 4294967296) (h4 : t.d < 4294967296) (h5 : -9223372036854775808 ≤ m.sl ∧ m.sl ≤ 9223372036854775807) (h6 : -9223372036854775808 ≤ m.dl ∧ m.dl ≤ 9223372036854775807) :
    Calls Tryd.prog 3 #[.string (txt s), .agg #[.int .u32 (a : Int), .int .i64 n], .int .u32 (b : Int), .agg #[.int .u32 (m.sa : Int), .int .i64 m.sl, .int .u32 (m.da : Int), .int .i64 m.dl, .int .i64 m.pr, .int .i64 m.sp, .int .i64 m.dp], .agg #[.int .u32 (t.s : Int), .int .u32 (t.d : Int), .int .i64 t.p, .int .i64 t.sp, .int .i64 t.dp]] w fun e w' => e = .returned (.bool true) ∧ Below w.heap.size w w' := by
  by_cases hs : s.length ≤ 200
  · exact prefTells_in h s a n b m t w hL hs ha hb hn h1 h2 h3 h4 h5 h6
  · exact prefTells_out h s a n b m t w hL (by omega) hs2
end Go.Proofs.YtcmkcloapenpnaaDoor
