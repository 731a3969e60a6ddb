import Derived.Test.YtmhedmjealggfaaGaI
namespace Go.Proofs.Ytmhedmjealggfaa
open Go.RowKit
open Fl (fl)
set_option maxHeartbeats 1600000
set_option maxRecDepth 100000

theorem mulZ_in (x y : Int × Int) : InZ (mulZ x y) := by unfold InZ mulZ; simp only; omega
theorem fold_inZ (bs : List UInt8) : InZ (foldZ bs) := by have := foldZ_range bs; unfold InZ; omega
theorem nat_of (x : Int × Int) (h : InZ x) : x.1.natAbs < 9007199254740992 ∧ x.2.natAbs < 9007199254740992 := by unfold InZ at h; omega
/-- a byte more: by 3 + 2i, and on. -/
theorem fold_more (bs : List UInt8) (c : UInt8) : foldZ (bs ++ [c]) = (((mulZ (foldZ bs) (3, 2)).1 + (c.toNat : Int)) % 65521, ((mulZ (foldZ bs) (3, 2)).2 + 1) % 65521) := by
  rw [foldZ_snoc]
  have := fold_inZ bs
  have hc := UInt8.toNat_lt c
  generalize foldZ bs = z at *
  obtain ⟨u, v⟩ := z
  unfold InZ at this
  unfold foldStep mulZ
  simp only at *
  rw [Prod.mk.injEq]
  constructor <;> omega

theorem joins_out (hF : FoldSpec 18) (hM : MulSpec 21) (A : Option Addr) (n c : Nat) (x : Int) (h : 1000 < n) (w : World) :
    Calls Try.prog 8 #[.slice A n c, .int .u8 x] w fun e w' => e = .returned (.bool true) ∧ Below w.heap.size w w' := by
  have HL := hid (fun w => alive3 hF hM w)
  clear hF hM
  have t1 : decide ((1000 : Int) < n) = true := by simp; omega
  go_enter Try.func8, Try.ntmps8
  go_wp2_with (go_at_call 16; (with_reducible refine (HL.out _).mono ?_); rintro e' w1 ⟨rfl, hb1⟩)
  go_ret
  exact ⟨rfl, hb1⟩
theorem joins_in (hF : FoldSpec 18) (hM : MulSpec 21) (A : Option Addr) (n c : Nat) (bs : List UInt8) (x : UInt8) (w : World) (hr : RByt w w.heap.size A n bs) (hA : A = none → n = 0 ∧ c = 0) (h : n ≤ 1000) :
    Calls Try.prog 8 #[.slice A n c, .int .u8 (x.toNat : Int)] w fun e w' => e = .returned (.bool true) ∧ Below w.heap.size w w' := by
  have HL := hid (fun w => alive3 hF hM w)
  have HF := hid hF; have HM := hid hM; have HI := hid hr; have HN := hid hA
  obtain ⟨i5, hi, hz0, hz1, hz2⟩ := info_parts Try.info5
  have Ai := hid hi; have Az0 := hid hz0; have Az1 := hid hz1; have Az2 := hid hz2
  clear hi hz0 hz1 hz2 hF hM hA hr
  have t1 : decide ((1000 : Int) < n) = false := by simp; omega
  have hx := UInt8.toNat_lt x
  have hx2 : x.toNat < 256 := hx
  clear hx
  have HG := hid (fun w => HM.out (foldZ bs) (3, 2) (fold_inZ bs) ⟨by decide, by decide, by decide, by decide⟩ w)
  have HK := hid (fold_more bs x)
  have Hin := hid (mulZ_in (foldZ bs) (3, 2))
  have HFM : Hid (∀ w, Calls Try.prog 21 #[.complex .f64 (fl (foldZ bs).1) (fl (foldZ bs).2), .complex .f64 4613937818241073152 4611686018427387904] w fun e w' => e = .returned (.complex .f64 (fl (mulZ (foldZ bs) (3, 2)).1) (fl (mulZ (foldZ bs) (3, 2)).2)) ∧ Below w.heap.size w w') := by
    intro w
    have := HG.out w
    rwa [fl3, fl2] at this
  have hin := Hin.out
  unfold InZ at hin
  obtain ⟨g1, g2, g3, g4⟩ := hin
  go_enter Try.func8, Try.ntmps8
  go_wp2_with (go_at_call 16; (with_reducible refine (HL.out _).mono ?_); rintro e' w1 ⟨rfl, hb1⟩)
  have HR := hid (HF.out A n c bs w1 ((HI.out.below hb1).more hb1.size) (by omega))
  refine HR.out.mono ?_
  rintro e' w2 ⟨rfl, hb2⟩
  have h02 := hb1.trans (hb2.mono hb1.size)
  go_wp2_with fail
  refine (HFM.out _).mono ?_
  rintro e' w3 ⟨rfl, hb3⟩
  have h03 := h02.trans (hb3.mono h02.size)
  have HI3 := hid ((HI.out.below h03).more h03.size)
  have HH3 := hid h03
  clear hb1 hb2 hb3 h02 h03 HR HG HFM
  generalize mulZ (foldZ bs) (3, 2) = z at *
  obtain ⟨u, v⟩ := z
  simp only at g1 g2 g3 g4
  have ku := fun W => conv_fl u (by omega) W
  have kv := fun W => conv_fl v (by omega) W
  have fu := floatOfInt_fl ((u + (x.toNat : Int)) % 65521) (by omega)
  have fv := floatOfInt_fl ((v + 1) % 65521) (by omega)
  have ou := ord_same ((u + (x.toNat : Int)) % 65521) (by omega)
  have ov := ord_same ((v + 1) % 65521) (by omega)
  have hnews : ∀ w : World, ∀ (j : Nat) (q : Value), (bcells [x])[j]? = some q → (w.alloc (.cells #[.int .u8 (x.toNat : Int)] 5)).cell? ((⟨w.heap.size, 0, none⟩ : Addr).add j) = some q := fun w => new_row rfl
  have HNW := hid hnews
  clear hnews
  go_wp2_with (first
    | (at_builtin; refine wpList_copy rfl (.const (.slice none 0 0)) (.tmp 33) 25 rfl w3.heap.size 5 i5 (.int .u8 0) 1 1 Try.underlying25 Ai.out Az0.out Az1.out Az2.out rfl (by decide) rfl A n c (bcells bs) rfl HN.out (by rw [bcells_len, HI3.out.1]; omega) (byt_src' HI3.out) (bcells_one _) (by unfold maxLen; omega) (by omega) (Nat.le_refl _) ?_; intro v4 w4 hown4 hb4; have hs4 := hb4.size)
    | (at_builtin; refine wpList_append_own _ rfl (.tmp 34) (.tmp 36) 25 rfl w3.heap.size 5 i5 (.int .u8 0) 1 1 Try.underlying25 Ai.out Az0.out Az1.out Az2.out rfl (by decide) _ _ _ rfl (hown4.alloc _) ⟨w4.heap.size, 0, none⟩ 1 1 (bcells [x]) rfl rfl (HNW.out w4) (bcells_one _) (by unfold maxLen; omega) (by omega) (by simp; omega) ?_; intro v5 w5 hown5 hg5 _))
  rw [← bcells_app] at hown5
  obtain ⟨A5, c5, rfl, hr5⟩ := own_byt hown5
  have hb5 : Below w3.heap.size w3 w5 := hb4.trans (Below.grown ((Below.refl _ _).alloc hs4 _) hg5 (by simp; omega) (fun k hk => (hown4.lt k hk).1))
  have HR5 := hid (HF.out A5 (n + 1) c5 (bs ++ [x]) w5 hr5 (by omega))
  rw [HK.out] at HR5
  have HB5 := hid (HH3.out.trans (hb5.mono HH3.out.size))
  clear hown4 hown5 hg5 hb5 hr5 hb4 hs4
  refine HR5.out.mono ?_
  rintro e' w6 ⟨rfl, hb6⟩
  go_wp2_with fail
  go_ret
  exact ⟨rfl, HB5.out.trans (hb6.mono HB5.out.size)⟩
theorem joins_any (hF : FoldSpec 18) (hM : MulSpec 21) (A : Option Addr) (n c : Nat) (bs : List UInt8) (x : UInt8) (w : World) (hr : RByt w w.heap.size A n bs) (hA : A = none → n = 0 ∧ c = 0) :
    Calls Try.prog 8 #[.slice A n c, .int .u8 (x.toNat : Int)] w fun e w' => e = .returned (.bool true) ∧ Below w.heap.size w w' := by
  by_cases h : 1000 < n
  · exact joins_out hF hM A n c _ h w
  · exact joins_in hF hM A n c bs x w hr hA (by omega)
end Go.Proofs.Ytmhedmjealggfaa
