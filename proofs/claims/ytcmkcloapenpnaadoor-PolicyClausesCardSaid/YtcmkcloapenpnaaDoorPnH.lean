/- Landed prefix: Show. -/
import Derived.Test.YtcmkcloapenpnaaDoorPnG
import Derived.Lib.AppendIntMem
import Derived.Laws.IdiomStrings
import Derived.WalkSmall
namespace Go.Proofs.YtcmkcloapenpnaaDoor
open Go.RowKit
set_option maxHeartbeats 6400000
set_option maxRecDepth 100000
theorem byte_info : (Tryd.prog.info? 5).map (fun i => (i.zero, i.size, i.bytes)) = some (some (.int .u8 0), 1, 1) := by kernel_rfl
theorem append_uint (B n u : Nat) (hu64 : u < 18446744073709551616) (sv : Value) (xs : List Value) (w : World) (hown : w.ownsRow B 5 1 sv n xs) (hBw : B ≤ w.heap.size) (hlim : n + 20 ≤ 140737488355328) (hL : Ld w) :
    Calls Tryd.prog 28 #[sv, .int .u64 (u : Int), .int .i64 10] w fun e w' => ∃ v', e = .returned v' ∧ w'.ownsRow B 5 1 v' (n + (decL u).length) (xs ++ Lib.byteCells (decL u)) ∧ Below B w w' := by
  have HC := hid (internal_strconv_AppendUint_10 B n u hu64 sv xs w hown hBw hlim hL.1)
  rw [lib_dec] at HC
  clear hL hown
  go_enter Tryd.func28, Tryd.ntmps28
  go_wp2_with (go_at_call 45; (with_reducible refine HC.out.mono ?_); rintro e' w1 ⟨v', rfl, h1, h2, -⟩)
  go_ret
  exact ⟨_, rfl, h1, h2⟩
/-- What Show has written behind its first p numbers. -/
def shP (M : Nat) : Nat → List UInt8
  | 0 => []
  | p + 1 => shP M p ++ decL (M / 2 ^ (24 - 8 * p) % 256) ++ [if p < 3 then 46 else 47]
theorem shP_len (M : Nat) : ∀ p, (shP M p).length ≤ 4 * p
  | 0 => by simp [shP]
  | p + 1 => by
    have := shP_len M p
    have l1 := decL_len 2 (M / 2 ^ (24 - 8 * p) % 256) (by omega)
    simp only [shP, List.length_append, List.length_singleton]
    omega
theorem show_end (a : Nat) (n : Int) (ha : a < 4294967296) : showS a n = shP (maskS a (cut32 n)) 4 ++ decL (cut32 n) := by
  have hm := maskS_lt (n := cut32 n) ha
  unfold showS
  simp only [shP]
  rw [show maskS a (cut32 n) / 2 ^ (24 - 8 * 0) % 256 = maskS a (cut32 n) / 16777216 by simp; omega]
  simp
theorem ends_mark {p : Nat} {c : UInt8} (hp : p < 4) (h : endsL.take (p + 1) = endsL.take p ++ [c]) : c = if p < 3 then 46 else 47 := by
  match p, hp with
  | 0, _ => simpa [endsL] using h.symm
  | 1, _ => simpa [endsL] using h.symm
  | 2, _ => simpa [endsL] using h.symm
  | 3, _ => simpa [endsL] using h.symm
theorem show_land (a : Nat) (n : Int) (w : World) (hL : Ld w) (ha : a < 4294967296) :
    Calls Tryd.prog 12 #[.agg #[.int .u32 (a : Int), .int .i64 n]] w fun e w' => e = .returned (.string (txt (showS a n))) ∧ Below w.heap.size w w' := by
  obtain ⟨i0, hi, hz0, hz1, hz2⟩ := info_parts byte_info
  have HT := hid (fun W => trim_any a n W ha)
  have hc := cut32_le n
  have hM := maskS_lt (n := cut32 n) ha
  have HV := hid (show_end a n ha)
  obtain ⟨c, hcc⟩ : ∃ c, cut32 n = c := ⟨_, rfl⟩
  rw [hcc] at HT hc HV hM
  obtain ⟨M, hMM⟩ : ∃ M, maskS a c = M := ⟨_, rfl⟩
  rw [hMM] at HT HV hM
  have HL := hid (fun W (hb : Below w.heap.size w W) => hL.on hb)
  clear hcc hMM hL
  go_enter Tryd.func12, Tryd.ntmps12
  go_wp2_with (go_at_call 25; (with_reducible refine (HT.out _).mono ?_); rintro e' w1 ⟨rfl, hb1⟩; have hx1 := box_below (heap_alloc_new w (.cells #[.int .u32 (a : Int), .int .i64 n] 24)) hb1 (by simp); obtain ⟨p0, p1, p2⟩ := box_cells hx1)
  have hb0 : Below w.heap.size w (w.alloc (.cells #[.int .u32 (a : Int), .int .i64 n] 24)) := (Below.refl _ w).alloc (Nat.le_refl _) _
  have hlt1 : w.heap.size < w1.heap.size := (Array.getElem?_eq_some_iff.1 hx1).1
  obtain ⟨W2, hW2⟩ : ∃ W2, (w1.setCell ⟨w.heap.size, 0, none⟩ (.int .u32 (M : Int))).setCell ⟨w.heap.size, 1, none⟩ (.int .i64 (c : Int)) = W2 := ⟨_, rfl⟩
  have hx2 : W2.heap[w.heap.size]? = some (.cells #[.int .u32 (M : Int), .int .i64 (c : Int)] 24 (0, 0)) := hW2 ▸ box_set1 (box_set0 hx1)
  have hs2 : W2.heap.size = w1.heap.size := by rw [← hW2]; simp
  have hb2 : Below w.heap.size w W2 := hW2 ▸ ((hb0.trans (hb1.mono hb0.size)).setCell (Nat.le_refl _) _).setCell (Nat.le_refl _) _
  obtain ⟨k, hk⟩ : ∃ k, w1.heap.size = k := ⟨_, rfl⟩
  rw [hW2]
  simp only [hk]
  rw [hk] at hs2 hlt1
  have hb3 : Below w.heap.size w (W2.iter ⟨#[46, 46, 46, 47]⟩ 0) := hb2.alloc (by omega) _
  have hx3 : (W2.iter ⟨#[46, 46, 46, 47]⟩ 0).heap[w.heap.size]? = some (.cells #[.int .u32 (M : Int), .int .i64 (c : Int)] 24 (0, 0)) := (Below.heap_alloc _ _ _ (by omega)).trans hx2
  have hy3 : (W2.iter ⟨#[46, 46, 46, 47]⟩ 0).heap[k]? = some (.stringIter endsB 0) := by
    have := World.iter_heap W2 ⟨#[46, 46, 46, 47]⟩ 0
    rw [hs2] at this
    exact this
  have HI0 : Hid (_ ∧ _ ∧ _ ∧ _) := ⟨hx3, hy3, hb3, (World.ownsRow_nil (W2.iter ⟨#[46, 46, 46, 47]⟩ 0) (k + 1) 5 1 : (W2.iter ⟨#[46, 46, 46, 47]⟩ 0).ownsRow (k + 1) 5 1 (.slice none 0 0) (shP M 0).length (Lib.byteCells (shP M 0)))⟩
  clear hx3 hy3 hb3 hs2 hb2 hx2 hW2 hk hb0 hb1 hx1 p0 p1 p2
  go_loopw [3] (fun sv wr => ∃ (p : Nat), p ≤ 4 ∧ Hid (wr.heap[w.heap.size]? = some (.cells #[.int .u32 (M : Int), .int .i64 (c : Int)] 24 (0, 0)) ∧ wr.heap[k]? = some (.stringIter endsB p) ∧ Below w.heap.size w wr ∧ wr.ownsRow (k + 1) 5 1 sv (shP M p).length (Lib.byteCells (shP M p)))) (fun _ wr => 4 - wr.iterPos k)
  case atStart => exact ⟨0, by omega, HI0⟩
  case round =>
    obtain ⟨p, hp, HW⟩ := hrel
    have hlt : k < wr.heap.size := (Array.getElem?_eq_some_iff.1 HW.out.2.1).1
    have hlen := shP_len M p
    by_cases h4 : p < 4
    · obtain ⟨m, hm, htk, hnx0⟩ := ends_c h4
      have hmk := ends_mark h4 htk
      have hnx := fun ty => hnx0 wr k ty HW.out.2.1
      obtain ⟨wi, hwi⟩ : ∃ wi, wr.iterAt k endsB (p + 1) = wi := ⟨_, rfl⟩
      rw [hwi] at hnx
      have HWi : Hid (wi.heap[w.heap.size]? = some (.cells #[.int .u32 (M : Int), .int .i64 (c : Int)] 24 (0, 0)) ∧ wi.heap[k]? = some (.stringIter endsB (p + 1)) ∧ Below w.heap.size w wi ∧ wi.ownsRow (k + 1) 5 1 u3 (shP M p).length (Lib.byteCells (shP M p))) := by
        obtain ⟨h1, h2, h3, h5⟩ := HW.out
        rw [← hwi]
        exact ⟨(Lib.iterAt_other _ _ _ _ _ (by omega)).trans h1, Lib.iterAt_heap wr _ _ _ _ h2, Lib.below_iterAt h3 (by omega) _ _, ownsRow_iterAt h5 (by omega) _ _⟩
      have hlti : k < wi.heap.size := (Array.getElem?_eq_some_iff.1 HWi.out.2.1).1
      clear hwi hnx0 htk
      obtain ⟨z0, z1, z2⟩ := box_cells HWi.out.1
      have hu : M / 2 ^ (24 - 8 * p) % 256 < 256 := Nat.mod_lt _ (by decide)
      have eU : ((M / 2 ^ (24 - 8 * p) % 256 : Nat) : Int) = (M : Int) / 2 ^ (24 - 8 * p) % 256 := by rw [Int.natCast_emod, Int.natCast_ediv, Int.natCast_pow]; rfl
      have HA := hid (append_uint (k + 1) _ (M / 2 ^ (24 - 8 * p) % 256) (by omega) _ _ wi HWi.out.2.2.2 (by omega) (by omega) (HL.out _ HWi.out.2.2.1))
      rw [eU] at HA
      have hl2 := decL_len 2 (M / 2 ^ (24 - 8 * p) % 256) (by omega)
      have hend : Hid (shP M (p + 1) = shP M p ++ decL (M / 2 ^ (24 - 8 * p) % 256) ++ [m]) := by show _ = _; rw [shP, ← hmk]
      obtain ⟨X, hX⟩ : ∃ x, shP M p = x := ⟨_, rfl⟩
      obtain ⟨Y, hY⟩ : ∃ x, decL (M / 2 ^ (24 - 8 * p) % 256) = x := ⟨_, rfl⟩
      rw [hX, hY] at HA hend
      rw [hX] at hlen HWi
      rw [hY] at hl2
      have e5 : (m.toNat : Int) % 256 = (m.toNat : Int) := by have := m.toNat_lt; omega
      clear hX hY hmk hm eU hu
      go_wp2_with (first
        | (go_at_call 28; (with_reducible refine HA.out.mono ?_); rintro e' w5 ⟨v5, rfl, hown5, hb5⟩; refine Hid.out ?_))
      refine Lib.hid ?_
      have hsz5 : k + 1 ≤ w5.heap.size := by have := hb5.size; omega
      have hx5 := box_below HWi.out.1 hb5 (by omega)
      have hy5 := box_below HWi.out.2.1 hb5 (by omega)
      have hb5w : Hid (Below w.heap.size w w5) := HWi.out.2.2.1.trans (hb5.mono (by omega))
      clear hb5 z0 z1 z2
      go_wp2_with (at_builtin; refine wpList_append_any rfl _ _ 57 rfl (k + 1) 5 i0 (.int .u8 0) 1 1 Tryd.underlying57 hi hz0 hz1 hz2 rfl (by decide) _ _ _ rfl (hown5.alloc _) (some ⟨w5.heap.size, 0, none⟩) 1 1 [Value.int .u8 (m.toNat : Int)] rfl (fun h => by cases h) rfl (by intro ad had j u' hj; cases had; match j, hj with | 0, hj => simp at hj; subst hj; simp [Addr.add]) (by intro u' hu'; simp at hu'; subst hu'; rfl) (by unfold maxLen; omega) (by omega) (by simp; omega) ?_)
      intro v6 w6 hown6 hb6
      have hb6w : Below w.heap.size w w6 := (hb5w.out.alloc (by omega) _).trans (hb6.mono (by omega))
      have hx6 := box_below ((Below.heap_alloc w5 (.cells #[.int .u8 (m.toNat : Int)] 5) _ (by omega)).trans hx5) hb6 (by omega)
      have hy6 := box_below ((Below.heap_alloc w5 (.cells #[.int .u8 (m.toNat : Int)] 5) _ (by omega)).trans hy5) hb6 (by omega)
      have eL : Lib.byteCells X ++ (Lib.byteCells Y ++ [Value.int .u8 (m.toNat : Int)]) = Lib.byteCells (X ++ Y ++ [m]) := by simp [Lib.byteCells]
      have eN : X.length + Y.length + 1 = (X ++ Y ++ [m]).length := by simp only [List.length_append, List.length_singleton]
      rw [eL, eN, ← hend.out] at hown6
      have HX : Hid (w6.heap[w.heap.size]? = some (.cells #[.int .u32 (M : Int), .int .i64 (c : Int)] 24 (0, 0)) ∧ w6.heap[k]? = some (.stringIter endsB (p + 1)) ∧ Below w.heap.size w w6 ∧ w6.ownsRow (k + 1) 5 1 v6 (shP M (p + 1)).length (Lib.byteCells (shP M (p + 1)))) := ⟨hx6, hy6, hb6w, hown6⟩
      have hp6 : w6.iterPos k = p + 1 := by simp only [World.iterPos, hy6]
      have hpr : wr.iterPos k = p := by simp only [World.iterPos, HW.out.2.1]
      clear hx6 hy6 hb6w hown6 hb6 hown5 eL eN hx5 hy5 e5
      go_wp2_with fail
      go_roundw
      case rel => exact ⟨p + 1, by omega, HX⟩
      case measure => rw [hp6, hpr]; omega
    · obtain rfl : p = 4 := by omega
      have hnx : ∀ ty, (Instr.next (.pointer (some ⟨k, 0, none⟩)) true ty).run Tryd.prog wr = .ok (.tuple #[.bool false]) wr := fun ty => Lib.run_next_end_at wr k endsB 4 ty HW.out.2.1 (by decide)
      obtain ⟨z0, z1, z2⟩ := box_cells HW.out.1
      have HA := hid (strconv_AppendInt_10 (k + 1) _ (c : Int) (by omega) (by omega) _ _ wr HW.out.2.2.2 (by omega) (by omega) (fun W hb => (HL.out W (HW.out.2.2.1.trans (hb.mono (by omega)))).1))
      rw [itoa_nat] at HA
      obtain ⟨X, hX⟩ : ∃ x, shP M 4 = x := ⟨_, rfl⟩
      have hYn := decL_ne c
      obtain ⟨Y, hY⟩ : ∃ x, decL c = x := ⟨_, rfl⟩
      rw [hX, hY] at HA HV
      rw [hY] at hYn
      clear hX hY hlen
      go_wp2_with (first
        | (go_at_call 29; (with_reducible refine HA.out.mono ?_); rintro e' w5 ⟨v5, rfl, hown5, hb5, -⟩; refine Hid.out ?_))
      refine Lib.hid ?_
      have eL : Lib.byteCells X ++ Lib.byteCells Y = Lib.byteCells (X ++ Y) := by simp [Lib.byteCells]
      have eN : X.length + Y.length = (X ++ Y).length := by simp
      rw [eL, eN, ← HV.out] at hown5
      have hpos : 0 < (showS a n).length := by rw [HV.out, List.length_append]; have := List.length_pos_iff.2 hYn; omega
      obtain ⟨S, hS⟩ : ∃ x, showS a n = x := ⟨_, rfl⟩
      rw [hS] at hown5 hpos HV
      have HS := hid hS
      clear hS
      rcases hown5.2 with ⟨-, h0⟩ | ⟨g, cap, cur, rfl, -, -, -, -, -, -⟩
      · omega
      · have hcv := run_convert_bytes_back (P := Tryd.prog) w5 57 9 5 ⟨g, 0, none⟩ cap S Tryd.underlying57 Tryd.underlying5 Tryd.underlying9 (fun j hj => hown5.cells (g := g) rfl j _ (by simp [Lib.byteCells, hj]))
        go_wp2_with fail
        go_ret
        exact ⟨by rw [HS.out]; rfl, HW.out.2.2.1.trans (hb5.mono (by omega))⟩
end Go.Proofs.YtcmkcloapenpnaaDoor
