/- waymarkref11.ReadPrefix. -/
import Derived.Test.YtcmkcloapenpnaaDoorPfD
import Derived.Laws.ResultCell
import Derived.Laws.Rows
namespace Go.Proofs.YtcmkcloapenpnaaDoor
open Go.RowKit
set_option maxHeartbeats 6400000
set_option maxRecDepth 100000
/-- What Read answers. -/
def readV : Option (Nat × Nat) → Value
  | none => .tuple #[.agg #[.int .u32 0, .int .i64 0], .bool false]
  | some (a, n) => .tuple #[.agg #[.int .u32 (a : Int), .int .i64 (n : Int)], .bool true]
theorem cutL_len (l : List UInt8) : ∀ cur, (cutL cur l).length = (l.filter isMark).length + 1 := by
  induction l with
  | nil => intro cur; rfl
  | cons c r ih =>
    intro cur
    rw [cutL]
    cases hm : isMark c with
    | true => simp [hm, ih]
    | false => simp [hm, ih]
theorem cutL_step {s : List UInt8} {k : Nat} {x : UInt8} (h : s[k]? = some x) (cur : List UInt8) : cutL cur (s.drop k) = if isMark x then cur :: cutL [] (s.drop (k + 1)) else cutL (cur ++ [x]) (s.drop (k + 1)) := by
  obtain ⟨hk, hx⟩ := List.getElem?_eq_some_iff.1 h
  rw [List.drop_eq_getElem_cons hk, hx, cutL]
theorem numS_le {l : List UInt8} {most : Nat} (_ : 0 ≤ numS l most) : numS l most ≤ (most : Int) := by
  unfold numS
  split
  · omega
  · rename_i h1
    have : ¬most < valL l := fun h2 => h1 (.inr (.inr (.inr (.inr h2))))
    omega
def accL (l : List (List UInt8)) : Nat := l.foldl (fun a p => a * 256 + (numS p 255).toNat) 0
theorem accL_snoc (l : List (List UInt8)) (p : List UInt8) : accL (l ++ [p]) = accL l * 256 + (numS p 255).toNat := by unfold accL; rw [List.foldl_append]; rfl
theorem accL_lt (l : List (List UInt8)) : accL l < 256 ^ l.length := by
  induction hl : l.length generalizing l with
  | zero => rw [List.eq_nil_of_length_eq_zero hl]; decide
  | succ n ih =>
    obtain ⟨a, x, rfl⟩ : ∃ a x, l = a ++ [x] := ⟨l.dropLast, l.getLast (by intro h0; rw [h0] at hl; simp at hl), (List.dropLast_concat_getLast _).symm⟩
    have h1 := ih a (by simpa using hl)
    rw [accL_snoc, Nat.pow_succ]
    have h2 : (numS x 255).toNat ≤ 255 := by
      rcases Int.lt_or_le (numS x 255) 0 with h | h
      · omega
      · have := numS_le h; omega
    omega
theorem five {α : Type} {l : List α} (h : l.length = 5) : ∃ a b c d e, l = [a, b, c, d, e] := by
  match l, h with
  | [a, b, c, d, e], _ => exact ⟨a, b, c, d, e, rfl⟩
theorem byte_on {a v : Nat} (ha : a < 16777216) (hv : v < 256) : bits .or .u32 ((a : Int) * 256) (v : Int) = ((a * 256 + v : Nat) : Int) := by
  rw [u32_join 8 _ _ (by omega) (by omega) (by omega) (by omega) (by omega) (by omega)]; omega
theorem cutL_small (l : List UInt8) : ∀ (cur : List UInt8) (i : Nat) (x : List UInt8), (cutL cur l)[i]? = some x → x.length ≤ cur.length + l.length := by
  induction l with
  | nil =>
    intro cur i x h
    rw [cutL] at h
    have := List.mem_of_getElem? h
    simp at this
    rw [this]; exact Nat.le_add_right _ _
  | cons c r ih =>
    intro cur i x h
    rw [cutL] at h
    split at h
    · cases i with
      | zero => simp at h; rw [← h]; exact Nat.le_add_right _ _
      | succ i => rw [List.getElem?_cons_succ] at h; have := ih [] i x h; simp at this ⊢; omega
    · have := ih _ i x h
      simp at this ⊢; omega
theorem read_any (s : List UInt8) (w : World) (hs : s.length ≤ 100000) :
    Calls Tryd.prog 11 #[.string (txt s)] w fun e w' => e = .returned (readV (readS s)) ∧ Below w.heap.size w w' := by
  obtain ⟨m, hm⟩ : ∃ m, s.length = m := ⟨_, rfl⟩
  have hZ : (txt s).size = m := by rw [txt_size, hm]
  have HX := hid (fun (i : Nat) (x : UInt8) (h : s[i]? = some x) => run_at s i x h)
  have HP := hid (fun (i : Nat) (x : UInt8) (h : s[i]? = some x) => run_piece s i x h)
  obtain ⟨i5, hi, hz0, hz1, hz2⟩ := info_parts (show (Tryd.prog.info? 9).map (fun i => (i.zero, i.size, i.bytes)) = some (some (.string ByteArray.empty), 1, 16) by kernel_rfl)
  have Ai := hid hi; have Az0 := hid hz0; have Az1 := hid hz1; have Az2 := hid hz2
  clear hi hz0 hz1 hz2
  obtain ⟨B, hB⟩ : ∃ B, w.heap.size = B := ⟨_, rfl⟩
  have HX0 := hid (heap_alloc_new w (.cells #[.int .u32 0, .int .i64 0] 24))
  have HB0 : Hid (Below B w (w.alloc (.cells #[.int .u32 0, .int .i64 0] 24))) := by
    show _; rw [← hB]; exact (Below.refl _ _).alloc (Nat.le_refl _) _
  rw [hB] at HX0
  rw [hB]
  go_enter Tryd.func11, Tryd.ntmps11
  go_wp2_with fail
  try simp only [hB]
  clear hB
  have Hcut : Hid (cutL [] s = [] ++ cutL [] (s.drop 0)) := by show _ = _; simp
  go_loopw [4, 5, 6, 7] (fun l x e i wr => ∃ (k : Nat) (D : List (List UInt8)) (C : List UInt8), k ≤ m ∧ i = .int .i64 k ∧ x = .string (txt C) ∧ e = .string (txt ((s.take k).filter isMark)) ∧ Hid (wr.ownsRow (B + 1) 9 1 l D.length (scells D)) ∧ Hid (cutL [] s = D ++ cutL C (s.drop k)) ∧ Hid (D.length ≤ k ∧ C.length ≤ k) ∧ Hid (wr.heap[B]? = some (.cells #[.int .u32 0, .int .i64 0] 24 (0, 0))) ∧ Hid (Below B w wr)) (fun _ _ _ i _ => m - (intOf i).toNat)
  case atStart => exact ⟨0, [], [], Nat.zero_le _, rfl, rfl, rfl, World.ownsRow_nil _ _ _ _, Hcut, ⟨Nat.le_refl _, Nat.le_refl _⟩, HX0, HB0⟩
  case round =>
    obtain ⟨k, D, C, hk, rfl, rfl, rfl, HO, HQ, HL, HXw, HBw⟩ := hrel
    obtain ⟨A, c, rfl⟩ := pf_form HO.out
    by_cases hlt : k < m
    · obtain ⟨x, hx⟩ : ∃ x, s[k]? = some x := ⟨s[k]'(by omega), List.getElem?_eq_getElem _⟩
      have hrx := HX.out k x hx
      have hrp := HP.out k x hx
      have ew1 : IntKind.i64.wrap ((k : Int) + 1) = (k : Int) + 1 := by rw [IntKind.wrap_i64]; omega
      have hlf : ((s.take k).filter isMark).length ≤ k := Nat.le_trans (List.length_filter_le _ _) (by rw [List.length_take]; omega)
      have hD := HL.out.1
      have hC := HL.out.2
      have hst := cutL_step hx C
      have hft : (s.take (k + 1)).filter isMark = (s.take k).filter isMark ++ if isMark x then [x] else [] := by
        rw [List.take_add_one, hx, List.filter_append]
        cases hq : isMark x <;> simp [hq]
      obtain ⟨F, hF⟩ : ∃ F, (s.take k).filter isMark = F := ⟨_, rfl⟩
      rw [hF] at hlf hft
      rw [hF]
      have r1 := run_cat F [x] (by simp; omega)
      have r2 := run_cat C [x] (by simp; omega)
      cases hmk : isMark x with
      | true =>
        rw [hmk] at hst hft
        simp only [if_true] at hst hft
        have HQ2 : Hid (cutL [] s = (D ++ [C]) ++ cutL [] (s.drop (k + 1))) := by show _ = _; rw [HQ.out, hst, List.append_assoc]; rfl
        have Hft := hid hft
        have hor : x = 46 ∨ x = 47 := by unfold isMark at hmk; simpa using hmk
        have hBs : B < wr.heap.size := (Array.getElem?_eq_some_iff.1 HXw.out).1
        have HR : ∀ (v8 : Value) (w8 : World), w8.ownsRow (B + 1) 9 1 v8 (D.length + 1) (scells D ++ scells [C]) → w8.ownsRow (B + 1) 9 1 v8 (D ++ [C]).length (scells (D ++ [C])) := fun v8 w8 h => by rw [scells_app, List.length_append]; exact h
        have HRh := hid HR
        clear hst hft hF r2 HR
        rcases hor with rfl | rfl
        · have u1 : (((46 : UInt8).toNat : Int) == 46) = true := rfl
          go_wp2_with (at_builtin; refine wpList_append_own _ rfl (.tmp 28) (.tmp 30) 38 rfl (B + 1) 9 i5 (.string ByteArray.empty) 1 16 Tryd.underlying38 Ai.out Az0.out Az1.out Az2.out rfl (by decide) _ _ _ rfl (HO.out.alloc _) ⟨wr.heap.size, 0, none⟩ 1 1 (scells [C]) rfl rfl (new_row (str_row _)) (scells_one _) (by unfold maxLen; omega) (by omega) (by simp; omega) ?_; intro v8 w8 hown8 hg8 _; have HX8 := hid (pf_app HXw.out (by omega) HO.out hg8); have HO8 := hid hown8; have HB8 := hid (Below.grown (HBw.out.alloc (by omega) _) hg8 (by simp; omega) (fun q hq => Nat.le_trans (Nat.le_succ B) (HO.out.lt q hq).1)); clear hown8)
          clear ew1
          go_roundw
          case rel => exact ⟨k + 1, D ++ [C], [], by omega, by go_num, rfl, by rw [Hft.out], HRh.out _ _ HO8.out, HQ2, ⟨by simp; omega, by simp⟩, HX8, HB8⟩
          case measure => simp [intOf]; omega
        · have u1 : (((47 : UInt8).toNat : Int) == 46) = false := rfl
          have u2 : (((47 : UInt8).toNat : Int) == 47) = true := rfl
          go_wp2_with (at_builtin; refine wpList_append_own _ rfl (.tmp 28) (.tmp 30) 38 rfl (B + 1) 9 i5 (.string ByteArray.empty) 1 16 Tryd.underlying38 Ai.out Az0.out Az1.out Az2.out rfl (by decide) _ _ _ rfl (HO.out.alloc _) ⟨wr.heap.size, 0, none⟩ 1 1 (scells [C]) rfl rfl (new_row (str_row _)) (scells_one _) (by unfold maxLen; omega) (by omega) (by simp; omega) ?_; intro v8 w8 hown8 hg8 _; have HX8 := hid (pf_app HXw.out (by omega) HO.out hg8); have HO8 := hid hown8; have HB8 := hid (Below.grown (HBw.out.alloc (by omega) _) hg8 (by simp; omega) (fun q hq => Nat.le_trans (Nat.le_succ B) (HO.out.lt q hq).1)); clear hown8)
          clear ew1
          go_roundw
          case rel => exact ⟨k + 1, D ++ [C], [], by omega, by go_num, rfl, by rw [Hft.out], HRh.out _ _ HO8.out, HQ2, ⟨by simp; omega, by simp⟩, HX8, HB8⟩
          case measure => simp [intOf]; omega
      | false =>
        rw [hmk] at hst hft
        simp only [Bool.false_eq_true, if_false, List.append_nil] at hst hft
        have HQ2 : Hid (cutL [] s = D ++ cutL (C ++ [x]) (s.drop (k + 1))) := by show _ = _; rw [HQ.out, hst]
        have Hft := hid hft
        have u1 : ((x.toNat : Int) == 46) = false := by
          unfold isMark at hmk
          rw [Bool.or_eq_false_iff] at hmk
          refine beq_eq_false_iff_ne.2 fun h => beq_eq_false_iff_ne.1 hmk.1 (UInt8.toNat_inj.1 ?_)
          show x.toNat = 46
          omega
        have u2 : ((x.toNat : Int) == 47) = false := by
          unfold isMark at hmk
          rw [Bool.or_eq_false_iff] at hmk
          refine beq_eq_false_iff_ne.2 fun h => beq_eq_false_iff_ne.1 hmk.2 (UInt8.toNat_inj.1 ?_)
          show x.toNat = 47
          omega
        clear hst hft hF r1 hmk
        go_wp2_with fail
        clear ew1
        go_roundw
        case rel => exact ⟨k + 1, D, C ++ [x], by omega, by go_num, rfl, by rw [Hft.out], HO, HQ2, ⟨by omega, by simp; omega⟩, HXw, HBw⟩
        case measure => simp [intOf]; omega
    · obtain rfl : m = k := by omega
      have hta : s.take m = s := List.take_of_length_le (by omega)
      have hdr : s.drop m = [] := List.drop_of_length_le (by omega)
      have hBs : B < wr.heap.size := (Array.getElem?_eq_some_iff.1 HXw.out).1
      have HQ3 : Hid (cutL [] s = D ++ [C]) := by show _ = _; rw [HQ.out, hdr, cutL]
      have hDm := HL.out.1
      rw [hta]
      have htl : (txt (s.filter isMark)).toList = s.filter isMark := txt_list _
      by_cases hE : s.filter isMark = [46, 46, 46, 47]
      · rw [hE] at htl
        rw [hE]
        go_wp2_with (at_builtin; refine wpList_append_own _ rfl (.tmp 46) (.tmp 48) 38 rfl (B + 1) 9 i5 (.string ByteArray.empty) 1 16 Tryd.underlying38 Ai.out Az0.out Az1.out Az2.out rfl (by decide) _ _ _ rfl (HO.out.alloc _) ⟨wr.heap.size, 0, none⟩ 1 1 (scells [C]) rfl rfl (new_row (str_row _)) (scells_one _) (by unfold maxLen; omega) (by omega) (by simp; omega) ?_; intro v8 w8 hown8 hg8 _; have HX8 := hid (pf_app HXw.out (by omega) HO.out hg8); have HO8 := hid hown8; have HB8 := hid (Below.grown (HBw.out.alloc (by omega) _) hg8 (by simp; omega) (fun q hq => Nat.le_trans (Nat.le_succ B) (HO.out.lt q hq).1)); clear hown8)
        have hlen : (cutL [] s).length = 5 := by rw [cutL_len, hE]; rfl
        have hOw := HO8.out
        have HOw2 : w8.ownsRow (B + 1) 9 1 v8 (D ++ [C]).length (scells (D ++ [C])) := by rw [scells_app, List.length_append]; exact hOw
        rw [← HQ3.out] at HOw2
        rw [hlen] at HOw2
        obtain ⟨p0, p1, p2, p3, p4, hP⟩ := five hlen
        rw [hP] at HOw2
        obtain ⟨A9, c9, rfl, hc9, hr9⟩ := own_strs HOw2 rfl
        obtain ⟨b, off, rfl, hbl, hcell⟩ := hr9.2 (by omega)
        have HCl := hid hcell
        have HRd : Hid (readS s = readNums [p0, p1, p2, p3, p4]) := by show _ = _; unfold readS; rw [if_pos hE, hP]
        obtain ⟨P, hPP⟩ : ∃ P, [p0, p1, p2, p3, p4] = P := ⟨_, rfl⟩
        obtain ⟨q0, q1, q2⟩ := box_cells HX8.out
        have f0 := q2 0
        have f1 := q2 1
        clear q2
        have HPP := hid hPP
        have HPl : Hid (∀ (i : Nat) (x : List UInt8), P[i]? = some x → x.length ≤ s.length) := by
          show _
          rw [← hPP, ← hP]
          exact fun i x hx => by have := cutL_small s [] i x hx; simpa using this
        rw [hPP] at HCl
        clear hcell hr9 HOw2 hOw hP hlen hPP
        go_loopw [8, 9] (fun a i wr => ∃ (j : Nat), j ≤ 4 ∧ i = .int .i64 j ∧ a = .int .u32 (accL (P.take j) : Int) ∧ wr = w8 ∧ Hid (∀ p ∈ P.take j, 0 ≤ numS p 255)) (fun _ i _ => 4 - (intOf i).toNat)
        case atStart => exact ⟨0, Nat.zero_le _, rfl, rfl, rfl, fun p hp => by simp at hp⟩
        case round =>
          obtain ⟨j, hj, rfl, rfl, hww, HG⟩ := hrel
          have hws := hww.symm
          subst hws
          clear hww
          by_cases hlj : j < 4
          · have hPl : P.length = 5 := by rw [← HPP.out]; rfl
            obtain ⟨p, hp⟩ : ∃ p, P[j]? = some p := ⟨P[j]'(by omega), List.getElem?_eq_getElem _⟩
            have cj := HCl.out j p hp
            have d1 : decide ((j : Int) < 4) = true := decide_eq_true (by omega)
            have HNm : Hid (∀ W : World, Calls Tryd.prog 26 #[.string (txt p), .int .i64 255] W fun e w' => e = .returned (.int .i64 (numS p 255)) ∧ W = w') := fun W => num_any p 255 W (by have := HPl.out j p hp; omega)
            have hts : P.take (j + 1) = P.take j ++ [p] := by rw [List.take_add_one, hp]; rfl
            obtain ⟨v, hv⟩ : ∃ v, numS p 255 = v := ⟨_, rfl⟩
            rw [hv] at HNm
            by_cases hv0 : v < 0
            · have d2 : decide (v < 0) = true := decide_eq_true hv0
              have HV : Hid (readS s = none) := by
                show _ = _
                rw [HRd.out]
                refine if_pos ?_
                rw [← HPP.out] at hp
                rcases (show j = 0 ∨ j = 1 ∨ j = 2 ∨ j = 3 by omega) with rfl | rfl | rfl | rfl <;> (simp at hp; subst hp; omega)
              have hg := box_set1 (u := .int .i64 0) (box_set0 (u := .int .u32 0) HX8.out)
              have HBe : Hid (Below B w ((w8.setCell ⟨B, 0, none⟩ (.int .u32 0)).setCell ⟨B, 1, none⟩ (.int .i64 0))) := (HB8.out.setCell (Nat.le_refl _) _).setCell (Nat.le_refl _) _
              have Hg := hid hg
              clear hts hg hv
              go_wp2_with (go_at_call 26; (with_reducible refine (HNm.out _).mono ?_); rintro _ _ ⟨rfl, rfl⟩)
              try simp only [Exit.inBlock, Exit.then]
              refine bodyPost_ret (results_cellrow_tmp (p := 2) (u := 3) (fn := Tryd.f11) rfl _ _ _ _ _ _ _ rfl Hg.out Tryd.underlying24 rfl (by kernel_rfl)) rfl ?_
              exact ⟨by rw [HV.out]; rfl, HBe.out⟩
            · have d2 : decide (v < 0) = false := decide_eq_false hv0
              obtain ⟨V, rfl⟩ := Int.eq_ofNat_of_zero_le (show 0 ≤ v by omega)
              have hV : V ≤ 255 := by have := numS_le (l := p) (most := 255) (by rw [hv]; omega); omega
              have hac : accL (P.take j) < 16777216 := by
                have h1 := accL_lt (P.take j)
                have h2 : 256 ^ (P.take j).length ≤ 256 ^ 3 := Nat.pow_le_pow_right (by decide) (by rw [List.length_take]; omega)
                exact Nat.lt_of_lt_of_le h1 h2
              obtain ⟨a, haa⟩ : ∃ a, accL (P.take j) = a := ⟨_, rfl⟩
              rw [haa] at hac
              rw [haa]
              have HW : Hid (bits .or .u32 ((a : Int) * 256 % 4294967296) ((V : Int) % 4294967296) = (accL (P.take (j + 1)) : Int)) := by
                show _ = _
                rw [Int.emod_eq_of_lt (by omega) (by omega), Int.emod_eq_of_lt (by omega) (by omega), byte_on hac (by omega), hts, accL_snoc, haa, hv]; simp
              have HG2 : Hid (∀ q ∈ P.take (j + 1), 0 ≤ numS q 255) := by
                show _
                rw [hts]
                intro q hq
                rw [List.mem_append] at hq
                rcases hq with hq | hq
                · exact HG.out q hq
                · simp at hq; rw [hq, hv]; omega
              have ew1 : IntKind.i64.wrap ((j : Int) + 1) = (j : Int) + 1 := by rw [IntKind.wrap_i64]; omega
              clear haa hts hv hV hac
              go_wp2_with (go_at_call 26; (with_reducible refine (HNm.out _).mono ?_); rintro _ _ ⟨rfl, rfl⟩)
              clear ew1
              go_roundw
              case rel => exact ⟨j + 1, by omega, by go_num, by rw [HW.out], by first | rfl | trivial, HG2.out⟩
              case measure => simp [intOf]; omega
          · obtain rfl : j = 4 := by omega
            have c4 := HCl.out 4 p4 (by rw [← HPP.out]; rfl)
            have HNm : Hid (∀ W : World, Calls Tryd.prog 26 #[.string (txt p4), .int .i64 32] W fun e w' => e = .returned (.int .i64 (numS p4 32)) ∧ W = w') := fun W => num_any p4 32 W (by have := HPl.out 4 p4 (by rw [← HPP.out]; rfl); omega)
            have hgood := HG.out
            rw [← HPP.out] at hgood
            have g0 := hgood p0 (by simp)
            have g1 := hgood p1 (by simp)
            have g2 := hgood p2 (by simp)
            have g3 := hgood p3 (by simp)
            have l0 := numS_le g0
            have l1 := numS_le g1
            have l2 := numS_le g2
            have l3 := numS_le g3
            have hac : accL (P.take 4) = (numS p0 255).toNat * 16777216 + (numS p1 255).toNat * 65536 + (numS p2 255).toNat * 256 + (numS p3 255).toNat := by
              rw [← HPP.out]
              show (((0 * 256 + (numS p0 255).toNat) * 256 + (numS p1 255).toNat) * 256 + (numS p2 255).toNat) * 256 + (numS p3 255).toNat = _
              omega
            have hab : accL (P.take 4) < 4294967296 := by rw [hac]; omega
            have hv := numS_le (l := p4) (most := 32)
            have HR0 : Hid (numS p4 32 < 0 → readS s = none) := fun h => by rw [HRd.out]; exact if_pos (by omega)
            have HR1 : Hid (¬numS p4 32 < 0 → readS s = some (maskS (accL (P.take 4)) (numS p4 32).toNat, (numS p4 32).toNat)) := fun h => by rw [HRd.out, hac]; exact if_neg (by omega)
            obtain ⟨a, haa⟩ : ∃ a, accL (P.take 4) = a := ⟨_, rfl⟩
            obtain ⟨v, hvv⟩ : ∃ v, numS p4 32 = v := ⟨_, rfl⟩
            rw [haa] at hab HR1
            rw [hvv] at hv HR0 HR1 HNm
            rw [haa]
            clear hgood g0 g1 g2 g3 l0 l1 l2 l3 hac haa hvv
            by_cases hv0 : v < 0
            · have d2 : decide (v < 0) = true := decide_eq_true hv0
              have HV := hid (HR0.out hv0)
              have HBe : Hid (Below B w ((w8.setCell ⟨B, 0, none⟩ (.int .u32 0)).setCell ⟨B, 1, none⟩ (.int .i64 0))) := (HB8.out.setCell (Nat.le_refl _) _).setCell (Nat.le_refl _) _
              have Hg := hid (box_set1 (u := .int .i64 0) (box_set0 (u := .int .u32 0) HX8.out))
              go_wp2_with (go_at_call 26; (with_reducible refine (HNm.out _).mono ?_); rintro _ _ ⟨rfl, rfl⟩)
              try simp only [Exit.inBlock, Exit.then]
              refine bodyPost_ret (results_cellrow_tmp (p := 2) (u := 3) (fn := Tryd.f11) rfl _ _ _ _ _ _ _ rfl Hg.out Tryd.underlying24 rfl (by kernel_rfl)) rfl ?_
              exact ⟨by rw [HV.out]; rfl, HBe.out⟩
            · have d2 : decide (v < 0) = false := decide_eq_false hv0
              have HV := hid (HR1.out hv0)
              obtain ⟨V, rfl⟩ := Int.eq_ofNat_of_zero_le (show 0 ≤ v by omega)
              have hV : V ≤ 32 := by omega
              have HMk := hid (fun W => mask_any a V W hab hV)
              rw [Int.toNat_natCast] at HV
              have HBe : Hid (Below B w ((w8.setCell ⟨B, 0, none⟩ (.int .u32 (maskS a V : Int))).setCell ⟨B, 1, none⟩ (.int .i64 (V : Int)))) := (HB8.out.setCell (Nat.le_refl _) _).setCell (Nat.le_refl _) _
              have Hg := hid (box_set1 (u := .int .i64 (V : Int)) (box_set0 (u := .int .u32 (maskS a V : Int)) HX8.out))
              clear hv
              go_wp2_with (first
                | (go_at_call 26; (with_reducible refine (HNm.out _).mono ?_); rintro _ _ ⟨rfl, rfl⟩)
                | (go_at_call 27; (with_reducible refine (HMk.out _).mono ?_); rintro _ _ ⟨rfl, rfl⟩))
              try simp only [Exit.inBlock, Exit.then]
              refine bodyPost_ret (results_cellrow_tmp (p := 2) (u := 3) (fn := Tryd.f11) rfl _ _ _ _ _ _ _ rfl Hg.out Tryd.underlying24 rfl (by kernel_rfl)) rfl ?_
              exact ⟨by rw [HV.out]; rfl, HBe.out⟩
      · have htb : (s.filter isMark == [46, 46, 46, 47]) = false := beq_eq_false_iff_ne.2 hE
        have HV : Hid (readS s = none) := by show _ = _; unfold readS; rw [if_neg hE]
        obtain ⟨E, hEE⟩ : ∃ E, s.filter isMark = E := ⟨_, rfl⟩
        rw [hEE] at htl htb
        rw [hEE]
        clear hE hEE hta
        go_wp2_with (at_builtin; refine wpList_append_own _ rfl (.tmp 46) (.tmp 48) 38 rfl (B + 1) 9 i5 (.string ByteArray.empty) 1 16 Tryd.underlying38 Ai.out Az0.out Az1.out Az2.out rfl (by decide) _ _ _ rfl (HO.out.alloc _) ⟨wr.heap.size, 0, none⟩ 1 1 (scells [C]) rfl rfl (new_row (str_row _)) (scells_one _) (by unfold maxLen; omega) (by omega) (by simp; omega) ?_; intro v8 w8 hown8 hg8 _; have HX8 := hid (pf_app HXw.out (by omega) HO.out hg8); have HO8 := hid hown8; have HB8 := hid (Below.grown (HBw.out.alloc (by omega) _) hg8 (by simp; omega) (fun q hq => Nat.le_trans (Nat.le_succ B) (HO.out.lt q hq).1)); clear hown8; obtain ⟨q0, q1, q2⟩ := box_cells HX8.out; have f0 := q2 0; have f1 := q2 1; clear q2)
        have Hg := hid (box_set1 (u := .int .i64 0) (box_set0 (u := .int .u32 0) HX8.out))
        try simp only [Exit.inBlock, Exit.then]
        refine bodyPost_ret (results_cellrow_tmp (p := 2) (u := 3) (fn := Tryd.f11) rfl _ _ _ _ _ _ _ rfl Hg.out Tryd.underlying24 rfl (by kernel_rfl)) rfl ?_
        exact ⟨by rw [HV.out]; rfl, (HB8.out.setCell (Nat.le_refl _) _).setCell (Nat.le_refl _) _⟩
end Go.Proofs.YtcmkcloapenpnaaDoor
