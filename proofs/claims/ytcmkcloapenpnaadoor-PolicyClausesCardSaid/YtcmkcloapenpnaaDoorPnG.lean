/- Landed prefix: Read. -/
import Derived.Test.YtcmkcloapenpnaaDoorPnF
import Derived.Test.YtcmkcloapenpnaaDoorPnD
import Derived.Lib.OthersKept
import Derived.Laws.Runes
namespace Go.Proofs.YtcmkcloapenpnaaDoor
open Go.RowKit
set_option maxHeartbeats 6400000
set_option maxRecDepth 100000
/-- The ends, one by one. -/
def endsB : ByteArray := ⟨#[46, 46, 46, 47]⟩
def endsL : List UInt8 := [46, 46, 46, 47]
theorem ends_c {p : Nat} (h : p < 4) : ∃ c : UInt8, (c = 46 ∨ c = 47) ∧ endsL.take (p + 1) = endsL.take p ++ [c] ∧ ∀ (W : World) (k : Nat) (ty : TypeId), W.heap[k]? = some (.stringIter endsB p) →
    (Instr.next (.pointer (some ⟨k, 0, none⟩)) true ty).run Tryd.prog W = .ok (.tuple #[.bool true, .int .i64 (p : Int), .int .i32 (c.toNat : Int)]) (W.iterAt k endsB (p + 1)) := by
  have hs : p < endsB.size := h
  refine ⟨endsB[p]'hs, ?_, ?_, fun W k ty hk => Lib.run_next_ascii_at W k endsB p ty hk hs ?_⟩
  · match p, h with
    | 0, _ => exact Or.inl rfl
    | 1, _ => exact Or.inl rfl
    | 2, _ => exact Or.inl rfl
    | 3, _ => exact Or.inr rfl
  · match p, h with
    | 0, _ => rfl
    | 1, _ => rfl
    | 2, _ => rfl
    | 3, _ => rfl
  · match p, h with
    | 0, _ => exact (by decide : (46 : UInt8).toNat < 128)
    | 1, _ => exact (by decide : (46 : UInt8).toNat < 128)
    | 2, _ => exact (by decide : (46 : UInt8).toNat < 128)
    | 3, _ => exact (by decide : (47 : UInt8).toNat < 128)
theorem mark_enc {c : UInt8} (h : c = 46 ∨ c = 47) : Utf8.encode (c.toNat : Int) = ⟨#[c]⟩ := by
  rcases h with rfl | rfl <;> kernel_rfl
theorem fold_none (l : List UInt8) : l.foldl stepR none = none := by
  induction l with
  | nil => rfl
  | cons c l ih => exact ih
theorem read_bad {l : List UInt8} {p : Nat} {c : UInt8} (h : endsL.take (p + 1) = endsL.take p ++ [c]) {u : Nat} {r : List UInt8} (hf : (endsL.take p).foldl stepR (some (0, l)) = some (u, r)) (hn : numS (cutA (c) r).1 255 < 0) : readS l = none := by
  rw [← readT_eq]
  unfold readT
  have e : ([46, 46, 46, 47] : List UInt8) = endsL.take (p + 1) ++ endsL.drop (p + 1) := (List.take_append_drop _ _).symm
  rw [e, List.foldl_append, h, List.foldl_append, hf]
  have : stepR (some (u, r)) (c) = none := by
    unfold stepR
    simp only [Option.bind_some]
    rw [if_pos hn]
  simp only [List.foldl_cons, List.foldl_nil, this, fold_none]
  rfl
theorem read_step {l : List UInt8} {p : Nat} {c : UInt8} (h : endsL.take (p + 1) = endsL.take p ++ [c]) {u : Nat} {r : List UInt8} (hf : (endsL.take p).foldl stepR (some (0, l)) = some (u, r)) {n : Nat} (hn : numS (cutA (c) r).1 255 = (n : Int)) : (endsL.take (p + 1)).foldl stepR (some (0, l)) = some (u * 256 + n, (cutA (c) r).2) := by
  rw [h, List.foldl_append, hf]
  simp only [List.foldl_cons, List.foldl_nil]
  unfold stepR
  simp only [Option.bind_some]
  rw [if_neg (by omega), hn, Int.toNat_natCast]
theorem read_end {l r : List UInt8} {u : Nat} (hf : (endsL.take 4).foldl stepR (some (0, l)) = some (u, r)) : readS l = if numS r 32 < 0 then none else some (maskS u (numS r 32).toNat, (numS r 32).toNat) := by
  rw [← readT_eq]
  unfold readT
  have e : ([46, 46, 46, 47] : List UInt8) = endsL.take 4 := rfl
  rw [e, hf]; rfl
theorem shl_or (u n : Nat) (hu : u < 16777216) (hn : n < 256) : bits .or .u32 ((u : Int) * 256 % 4294967296) (n : Int) = ((u * 256 + n : Nat) : Int) := by
  have e1 : (u : Int) * 256 % 4294967296 = ((u * 256 : Nat) : Int) := by omega
  rw [e1, u32_or_nat _ _ (by omega) (by omega)]
  congr 1
  have := Nat.two_pow_add_eq_or_of_lt (i := 8) (b := n) (by omega) u
  rw [Nat.mul_comm u 256]
  exact this.symm
theorem read_land (l : List UInt8) (w : World) (hL : Ld w) (hl : l.length ≤ 10000) :
    Calls Tryd.prog 10 #[.string (txt l)] w fun e w' => e = .returned (readV (readS l)) ∧ Below w.heap.size w w' := by
  have HC := hid (fun (r : List UInt8) (c : UInt8) (hr : r.length ≤ 10000) W => cut_any r c W hr)
  have HN := hid (fun (r : List UInt8) (m : Nat) (hm : m ≤ 255) (hr : r.length ≤ 10000) (W : World) (hb : Below w.heap.size w W) => number_any r m W (hL.on hb) hr (by omega))
  clear hL
  go_enter Tryd.func10, Tryd.ntmps10
  go_wp2_with fail
  have hb0 : Below w.heap.size w ((w.alloc (.cells #[.int .u32 0, .int .i64 0] 24)).iter ⟨#[46, 46, 46, 47]⟩ 0) := ((Below.refl _ w).alloc (Nat.le_refl _) _).alloc (by simp) _
  have hx0 : ((w.alloc (.cells #[.int .u32 0, .int .i64 0] 24)).iter ⟨#[46, 46, 46, 47]⟩ 0).heap[w.heap.size]? = some (.cells #[.int .u32 0, .int .i64 0] 24 (0, 0)) := (Below.heap_alloc _ _ _ (by simp)).trans (heap_alloc_new w _)
  have hy0 : ((w.alloc (.cells #[.int .u32 0, .int .i64 0] 24)).iter ⟨#[46, 46, 46, 47]⟩ 0).heap[w.heap.size + 1]? = some (.stringIter endsB 0) := by
    have := World.iter_heap (w.alloc (.cells #[.int .u32 0, .int .i64 0] 24)) ⟨#[46, 46, 46, 47]⟩ 0
    rw [show (w.alloc (.cells #[.int .u32 0, .int .i64 0] 24)).heap.size = w.heap.size + 1 by simp] at this
    exact this
  have HI0 : Hid (_ ∧ _ ∧ _) := ⟨hx0, hy0, hb0⟩
  clear hx0 hy0 hb0
  go_loopw [0, 4] (fun sv av wr => ∃ (p u : Nat) (r : List UInt8), p ≤ 4 ∧ sv = .string (txt r) ∧ av = .int .u32 (u : Int) ∧ u < 256 ^ p ∧ r.length ≤ 10000 ∧ Hid ((endsL.take p).foldl stepR (some (0, l)) = some (u, r)) ∧
      Hid (wr.heap[w.heap.size]? = some (.cells #[.int .u32 0, .int .i64 0] 24 (0, 0)) ∧ wr.heap[w.heap.size + 1]? = some (.stringIter endsB p) ∧ Below w.heap.size w wr)) (fun _ _ wr => 4 - wr.iterPos (w.heap.size + 1))
  case atStart => exact ⟨0, 0, l, by omega, rfl, rfl, by decide, hl, rfl, HI0⟩
  case round =>
    obtain ⟨p, u, r, hp, rfl, rfl, hu, hr, HF, HW⟩ := hrel
    have hlt : w.heap.size + 1 < wr.heap.size := (Array.getElem?_eq_some_iff.1 HW.out.2.1).1
    by_cases h4 : p < 4
    · obtain ⟨c, hc, htk, hnx0⟩ := ends_c h4
      have henc := mark_enc hc
      have hnx := fun ty => hnx0 wr (w.heap.size + 1) ty HW.out.2.1
      obtain ⟨wi, hwi⟩ : ∃ wi, wr.iterAt (w.heap.size + 1) endsB (p + 1) = wi := ⟨_, rfl⟩
      rw [hwi] at hnx
      have HWi : Hid (wi.heap[w.heap.size]? = some (.cells #[.int .u32 0, .int .i64 0] 24 (0, 0)) ∧ wi.heap[w.heap.size + 1]? = some (.stringIter endsB (p + 1)) ∧ Below w.heap.size w wi) := by
        obtain ⟨h1, h2, h3⟩ := HW.out
        rw [← hwi]
        exact ⟨(Lib.iterAt_other _ _ _ _ _ (by omega)).trans h1, Lib.iterAt_heap wr _ _ _ _ h2, Lib.below_iterAt h3 (by omega) _ _⟩
      have hlti : w.heap.size + 1 < wi.heap.size := (Array.getElem?_eq_some_iff.1 HWi.out.2.1).1
      clear hwi hnx0 hc
      obtain ⟨b, hcut⟩ := HC.out r c hr wi
      obtain ⟨hl1, hl2⟩ := cutA_len c r
      have HK := hid hcut
      have HNw : Hid (∀ W, Below w.heap.size w W → Calls Tryd.prog 24 #[.string (txt (cutA c r).1), .int .i64 255] W fun e w' => e = .returned (numR (cutA c r).1 255) ∧ Below W.heap.size W w') := fun W hb => HN.out (cutA c r).1 255 (by omega) (by omega) W hb
      have Hstep := hid (fun n hn => read_step (n := n) htk HF.out hn)
      have Hbad := hid (fun hn => read_bad htk HF.out hn)
      clear hcut htk hl1
      obtain ⟨ra, hra⟩ : ∃ x, (cutA c r).1 = x := ⟨_, rfl⟩
      obtain ⟨rb, hrb⟩ : ∃ x, (cutA c r).2 = x := ⟨_, rfl⟩
      rw [hra, hrb] at HK
      rw [hra] at HNw Hbad
      simp only [hra, hrb] at Hstep
      rw [hrb] at hl2
      clear hra hrb
      by_cases hn : numS ra 255 < 0
      · have HV := hid (Hbad.out hn)
        have eN : numR ra 255 = .tuple #[.int .i64 0, .bool false] := by unfold numR; rw [if_pos hn]
        rw [eN] at HNw
        clear Hstep Hbad HF hn eN
        go_wp2_with (first
          | (go_at_call 23; (with_reducible refine HK.out.mono ?_); rintro e' w5 ⟨rfl, hb5⟩; have hb5w := HWi.out.2.2.trans (hb5.mono HWi.out.2.2.size); have hx5 := box_below HWi.out.1 hb5 (by omega))
          | (go_at_call 24; (with_reducible refine (HNw.out _ hb5w).mono ?_); rintro e' w6 ⟨rfl, hb6⟩; have hx6 := box_below hx5 hb6 (by have := hb5.size; omega); obtain ⟨z0, z1, z2⟩ := box_cells hx6))
        have Hg := box_set1 (u := .int .i64 0) (box_set0 (u := .int .u32 0) hx6)
        refine bodyPost_ret (results_cellrow_tmp (p := 2) (u := 3) (fn := Tryd.f10) rfl _ _ _ _ _ _ _ rfl Hg Tryd.underlying24 rfl (by kernel_rfl)) rfl ?_
        have hb6w := hb5w.trans (hb6.mono hb5w.size)
        exact ⟨by rw [HV.out]; rfl, (hb6w.setCell (Nat.le_refl _) _).setCell (Nat.le_refl _) _⟩
      · obtain ⟨n, hn1, hn2, hn3⟩ := numS_inv (l := ra) (most := 255) (by omega)
        have HS := hid (Hstep.out n hn1)
        have eN : numR ra 255 = .tuple #[.int .i64 (n : Int), .bool true] := by unfold numR; rw [if_neg hn, hn1]
        rw [eN] at HNw
        have hu24 : u < 16777216 := by
          have : 256 ^ p ≤ 256 ^ 3 := Nat.pow_le_pow_right (by decide) (by omega)
          omega
        have hor := shl_or u n hu24 (by omega)
        have hu2 : Hid (u * 256 + n < 256 ^ (p + 1)) := by
          show _ < _
          rw [Nat.pow_succ]
          omega
        obtain ⟨u2, hu2e⟩ : ∃ x, u * 256 + n = x := ⟨_, rfl⟩
        rw [hu2e] at hor HS hu2
        clear Hstep Hbad HF hn eN hn1 hn3 hu2e hu24 hu
        go_wp2_with (first
          | (go_at_call 23; (with_reducible refine HK.out.mono ?_); rintro e' w5 ⟨rfl, hb5⟩; have hb5w := HWi.out.2.2.trans (hb5.mono HWi.out.2.2.size); have hx5 := box_below HWi.out.1 hb5 (by omega); have hy5 := box_below HWi.out.2.1 hb5 (by omega))
          | (go_at_call 24; (with_reducible refine (HNw.out _ hb5w).mono ?_); rintro e' w6 ⟨rfl, hb6⟩; have hx6 := box_below hx5 hb6 (by have := hb5.size; omega); have hy6 := box_below hy5 hb6 (by have := hb5.size; omega)))
        have HX : Hid (w6.heap[w.heap.size]? = some (.cells #[.int .u32 0, .int .i64 0] 24 (0, 0)) ∧ w6.heap[w.heap.size + 1]? = some (.stringIter endsB (p + 1)) ∧ Below w.heap.size w w6) := ⟨hx6, hy6, hb5w.trans (hb6.mono hb5w.size)⟩
        have hp6 : w6.iterPos (w.heap.size + 1) = p + 1 := by simp only [World.iterPos, hy6]
        have hpr : wr.iterPos (w.heap.size + 1) = p := by simp only [World.iterPos, HW.out.2.1]
        clear hx6 hy6 hx5 hy5
        go_roundw
        case rel => exact ⟨p + 1, u2, rb, by omega, rfl, rfl, hu2.out, by omega, HS, HX⟩
        case measure => rw [hp6, hpr]; omega
    · obtain rfl : p = 4 := by omega
      have hnx : ∀ ty, (Instr.next (.pointer (some ⟨w.heap.size + 1, 0, none⟩)) true ty).run Tryd.prog wr = .ok (.tuple #[.bool false]) wr := fun ty => Lib.run_next_end_at wr (w.heap.size + 1) endsB 4 ty HW.out.2.1 (by decide)
      have HNw : Hid (Calls Tryd.prog 24 #[.string (txt r), .int .i64 32] wr fun e w' => e = .returned (numR r 32) ∧ Below wr.heap.size wr w') := HN.out r 32 (by omega) hr wr HW.out.2.2
      have HE := hid (read_end HF.out)
      have hu32 : u < 4294967296 := hu
      by_cases hn : numS r 32 < 0
      · have HV : Hid (readS l = none) := by show _ = _; rw [HE.out, if_pos hn]
        have eN : numR r 32 = .tuple #[.int .i64 0, .bool false] := by unfold numR; rw [if_pos hn]
        rw [eN] at HNw
        clear HE HF hn eN
        go_wp2_with (go_at_call 24; (with_reducible refine HNw.out.mono ?_); rintro e' w6 ⟨rfl, hb6⟩; have hx6 := box_below HW.out.1 hb6 (by omega); obtain ⟨z0, z1, z2⟩ := box_cells hx6)
        have Hg := box_set1 (u := .int .i64 0) (box_set0 (u := .int .u32 0) hx6)
        refine bodyPost_ret (results_cellrow_tmp (p := 2) (u := 3) (fn := Tryd.f10) rfl _ _ _ _ _ _ _ rfl Hg Tryd.underlying24 rfl (by kernel_rfl)) rfl ?_
        have hb6w := HW.out.2.2.trans (hb6.mono HW.out.2.2.size)
        exact ⟨by rw [HV.out]; rfl, (hb6w.setCell (Nat.le_refl _) _).setCell (Nat.le_refl _) _⟩
      · obtain ⟨n, hn1, hn2, hn3⟩ := numS_inv (l := r) (most := 32) (by omega)
        have HV : Hid (readS l = some (maskS u n, n)) := by show _ = _; rw [HE.out, if_neg hn, hn1, Int.toNat_natCast]
        have eN : numR r 32 = .tuple #[.int .i64 (n : Int), .bool true] := by unfold numR; rw [if_neg hn, hn1]
        rw [eN] at HNw
        have HT := hid (fun W => trim_any u (n : Int) W hu32)
        rw [cut32_of hn2] at HT
        obtain ⟨M, hM⟩ : ∃ x, maskS u n = x := ⟨_, rfl⟩
        rw [hM] at HT HV
        clear HE HF hn eN hn1 hn2 hn3 hM
        go_wp2_with (first
          | (go_at_call 24; (with_reducible refine HNw.out.mono ?_); rintro e' w6 ⟨rfl, hb6⟩; have hx6 := box_below HW.out.1 hb6 (by omega))
          | (go_at_call 25; (with_reducible refine (HT.out _).mono ?_); rintro e' w7 ⟨rfl, hb7⟩; have hx7 := box_below hx6 hb7 (by have := hb6.size; omega); obtain ⟨z0, z1, z2⟩ := box_cells hx7))
        trace_state
        have Hg := box_set1 (u := .int .i64 (n : Int)) (box_set0 (u := .int .u32 (M : Int)) hx7)
        refine bodyPost_ret (results_cellrow_tmp (p := 2) (u := 3) (fn := Tryd.f10) rfl _ _ _ _ _ _ _ rfl Hg Tryd.underlying24 rfl (by kernel_rfl)) rfl ?_
        have hb6w := HW.out.2.2.trans (hb6.mono HW.out.2.2.size)
        have hb7w := hb6w.trans (hb7.mono hb6w.size)
        exact ⟨by rw [HV.out]; rfl, (hb7w.setCell (Nat.le_refl _) _).setCell (Nat.le_refl _) _⟩
end Go.Proofs.YtcmkcloapenpnaaDoor
