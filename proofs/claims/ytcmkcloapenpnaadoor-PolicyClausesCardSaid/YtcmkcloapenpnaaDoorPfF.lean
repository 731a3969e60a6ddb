/- What the laws ask of Read, Show, In, Matches; alive. -/
import Derived.Test.YtcmkcloapenpnaaDoorPfE
namespace Go.Proofs.YtcmkcloapenpnaaDoor
open Go.RowKit
set_option maxHeartbeats 6400000
set_option maxRecDepth 100000
structure PrefSpec (L : World → Prop) (fRead fShow fIn fMatches : Nat) : Prop where
  on : ∀ w w' : World, L w → Below w.heap.size w w' → L w'
  read : ∀ (s : List UInt8) (w : World), L w → s.length ≤ 10000 → Calls Tryd.prog fRead #[.string (txt s)] w fun e w' => e = .returned (readV (readS s)) ∧ Below w.heap.size w w'
  shows : ∀ (a : Nat) (n : Int) (w : World), L w → a < 4294967296 → -9223372036854775808 ≤ n ∧ n ≤ 9223372036854775807 → Calls Tryd.prog fShow #[.agg #[.int .u32 (a : Int), .int .i64 n]] w fun e w' => e = .returned (.string (txt (showS a n))) ∧ Below w.heap.size w w'
  ins : ∀ (a : Nat) (n : Int) (b : Nat) (w : World), a < 4294967296 → b < 4294967296 → -9223372036854775808 ≤ n ∧ n ≤ 9223372036854775807 → Calls Tryd.prog fIn #[.agg #[.int .u32 (a : Int), .int .i64 n], .int .u32 (b : Int)] w fun e w' => e = .returned (.bool (inS a n b)) ∧ Below w.heap.size w w'
  mats : ∀ (m : Mat) (t : Flw) (w : World), m.sa < 4294967296 → m.da < 4294967296 → t.s < 4294967296 → t.d < 4294967296 → -9223372036854775808 ≤ m.sl ∧ m.sl ≤ 9223372036854775807 → -9223372036854775808 ≤ m.dl ∧ m.dl ≤ 9223372036854775807 →
    Calls Tryd.prog fMatches #[.agg #[.int .u32 (m.sa : Int), .int .i64 m.sl, .int .u32 (m.da : Int), .int .i64 m.dl, .int .i64 m.pr, .int .i64 m.sp, .int .i64 m.dp], .agg #[.int .u32 (t.s : Int), .int .u32 (t.d : Int), .int .i64 t.p, .int .i64 t.sp, .int .i64 t.dp]] w fun e w' => e = .returned (.bool (matchS m t)) ∧ Below w.heap.size w w'
theorem ref_spec : PrefSpec (fun _ => True) 11 13 15 17 where
  on := fun _ _ _ _ => trivial
  read := fun s w _ h => read_any s w (by omega)
  shows := fun a n w _ h _ => show_any a n w h
  ins := fun a n b w h1 h2 _ => in_any a n b w h1 h2
  mats := fun m t w h1 h2 h3 h4 _ _ => matches_any m t w h1 h2 h3 h4
def tenT : List UInt8 := [49, 48, 46, 48, 46, 48, 46, 48, 47, 56]
theorem ten_read : readS tenT = some (167772160, 8) := by decide +kernel
theorem ten_show : showS 167772160 8 = tenT := by decide +kernel
theorem ten_in : inS 167772160 8 167772165 = true := by decide +kernel
theorem ten_out : inS 167772160 8 184549376 = false := by decide +kernel
theorem alive_any {L : World → Prop} (h : PrefSpec L 10 12 14 16) (w : World) (hL : L w) : Calls Tryd.prog 9 #[] w fun e w' => e = .returned (.bool true) ∧ Below w.heap.size w w' := by
  have HK := hid (fun W hb => h.on w W hL hb)
  have HR : Hid (∀ W : World, L W → Calls Tryd.prog 10 #[.string ⟨#[49, 48, 46, 48, 46, 48, 46, 48, 47, 56]⟩] W fun e w' => e = .returned (.tuple #[.agg #[.int .u32 167772160, .int .i64 8], .bool true]) ∧ Below W.heap.size W w') := fun W hW => by
    have := h.read tenT W hW (by decide)
    rw [ten_read] at this
    exact this
  have HI1 : Hid (∀ W : World, Calls Tryd.prog 14 #[.agg #[.int .u32 167772160, .int .i64 8], .int .u32 167772165] W fun e w' => e = .returned (.bool true) ∧ Below W.heap.size W w') := fun W => by
    have := h.ins 167772160 8 167772165 W (by decide) (by decide) (by decide)
    rw [ten_in] at this
    exact this
  have HI2 : Hid (∀ W : World, Calls Tryd.prog 14 #[.agg #[.int .u32 167772160, .int .i64 8], .int .u32 184549376] W fun e w' => e = .returned (.bool false) ∧ Below W.heap.size W w') := fun W => by
    have := h.ins 167772160 8 184549376 W (by decide) (by decide) (by decide)
    rw [ten_out] at this
    exact this
  have HS : Hid (∀ W : World, L W → Calls Tryd.prog 12 #[.agg #[.int .u32 167772160, .int .i64 8]] W fun e w' => e = .returned (.string (txt tenT)) ∧ Below W.heap.size W w') := fun W hW => by
    have := h.shows 167772160 8 W hW (by decide) (by decide)
    rw [ten_show] at this
    exact this
  have htl : (txt tenT).toList = [49, 48, 46, 48, 46, 48, 46, 48, 47, 56] := txt_list _
  clear h
  go_enter Tryd.func9, Tryd.ntmps9
  go_wp2_with (first
    | (go_at_call 10; (with_reducible refine (HR.out _ hL).mono ?_); rintro e' w1 ⟨rfl, hb1⟩)
    | (go_at_call 14; (with_reducible refine (HI1.out _).mono ?_); rintro e' w2 ⟨rfl, hb2⟩; have hx2 := box_below (heap_alloc_new w1 (.cells #[.int .u32 167772160, .int .i64 8] 24)) hb2 (by simp); obtain ⟨q0, q1, _⟩ := box_cells hx2; have hc2 := hid (hb1.trans (((Below.refl w1.heap.size w1).alloc (Nat.le_refl _) (.cells #[.int .u32 167772160, .int .i64 8] 24)).mono hb1.size)); have hs2 : w.heap.size ≤ (w1.alloc (.cells #[.int .u32 167772160, .int .i64 8] 24)).heap.size := (hc2.out.size); have hd2 := hid (hc2.out.trans (hb2.mono hs2)))
    | (go_at_call 14; (with_reducible refine (HI2.out _).mono ?_); rintro e' w3 ⟨rfl, hb3⟩; have hl2 : w1.heap.size < w2.heap.size := (Array.getElem?_eq_some_iff.1 hx2).1; have hx3 := box_below hx2 hb3 hl2; obtain ⟨p0, p1, _⟩ := box_cells hx3; have hd3 := hid (hd2.out.trans (hb3.mono hd2.out.size)))
    | (go_at_call 12; (with_reducible refine (HS.out _ (HK.out _ hd3.out)).mono ?_); rintro e' w4 ⟨rfl, hb4⟩; have hd4 := hid (hd3.out.trans (hb4.mono hd3.out.size))))
  go_ret
  exact ⟨rfl, hd4.out⟩
end Go.Proofs.YtcmkcloapenpnaaDoor
