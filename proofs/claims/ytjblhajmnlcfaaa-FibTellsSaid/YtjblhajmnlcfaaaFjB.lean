/- The code of package fib: Stack. -/
import Derived.Test.YtjblhajmnlcfaaaFjA
namespace Go.Proofs.Ytjblhajmnlcfaaa
open Go.RowKit
set_option maxHeartbeats 6400000
set_option maxRecDepth 100000
theorem label_alt (s : Sg) : labelS s = -1 ∨ 0 ≤ labelS s := by
  unfold labelS
  split
  · exact Or.inl rfl
  · split <;> (right; omega)
theorem cut_if (x : Int) : (let m := if 0 < x then x else 0; if 255 < m then 255 else m) = cutT x := by
  unfold cutT; dsimp only; split <;> split <;> split <;> omega
theorem stackC_any (A : Option Addr) (n c : Nat) (l : List Sg) (ttl : Int) (w : World) (h : RSeg w w.heap.size A n l) (hn : n ≤ 40) :
    Calls Try.prog 8 #[.slice A n c, .int .i64 ttl] w (RowAns 38 4 (stackS l ttl).length (ecells (stackS l ttl)) w) := by
  have HR := hid h
  have hl := h.1
  have HL := hid (fun (s : Sg) (W : World) => label_any s W)
  obtain ⟨i5, hi, hz0, hz1, hz2⟩ := info_parts (show (Try.prog.info? 38).map (fun i => (i.zero, i.size, i.bytes)) = some (some (.agg #[.int .i64 0, .int .i64 0, .int .i64 0, .bool false]), 4, 32) by kernel_rfl)
  have Ai := hid hi; have Az0 := hid hz0; have Az1 := hid hz1; have Az2 := hid hz2
  have Hl := hid hl
  clear hi hz0 hz1 hz2 h hl
  go_enter Try.func8, Try.ntmps8
  go_wp2_with (at_make; refine wpList_make_own _ rfl _ _ 28 rfl w.heap.size 38 i5 (.agg #[.int .i64 0, .int .i64 0, .int .i64 0, .bool false]) 4 Try.underlying28 Ai.out Az0.out Az1.out _ _ _ n rfl rfl rfl (by rw [Az2.out]; omega) (by unfold maxLen; omega) (Nat.le_refl _) ?_; intro w2 hown2 hg2)
  have hb2 : Below w.heap.size w w2 := grown_below hg2
  have HO2 := hid hown2
  have HB2 := hid hb2
  clear hg2 hown2 hb2
  go_loopw [5, 14] (fun ov iv wr => ∃ k : Nat, k ≤ n ∧ iv = .int .i64 k ∧ Hid (wr.ownsRow w.heap.size 38 4 ov k (ecells (entsUp l ttl k))) ∧ Hid (∀ (i : Nat) (s : Sg), i < k → l[i]? = some s → 0 ≤ labelS s) ∧ Hid (Below w.heap.size w wr)) (fun _ iv _ => n - (intOf iv).toNat)
  case atStart => exact ⟨0, Nat.zero_le _, rfl, HO2.out, fun i s h _ => by omega, HB2.out⟩
  case round =>
    obtain ⟨k, hk, rfl, HO, HG, HB⟩ := hrel
    obtain ⟨Ao, co, ho⟩ := own_form HO.out
    subst ho
    by_cases hlt : k < n
    · obtain ⟨s, hs⟩ : ∃ s, l[k]? = some s := ⟨l[k]'(by rw [Hl.out]; exact hlt), List.getElem?_eq_getElem _⟩
      obtain ⟨b, off, rfl, hbl, hc⟩ := HR.out.2 (by omega)
      have c0 := (HB.out.cell (p := ⟨b, off + k * 2, none⟩) hbl).trans (hc k s hs).1
      have c1 := (HB.out.cell (p := ⟨b, off + k * 2 + 1, none⟩) hbl).trans (hc k s hs).2
      have HLs := hid (HL.out s)
      have hLv := entsUp_succ l ttl k
      have hEk : entAt l ttl k = ⟨labelS s, 0, cutT ttl, decide ((k : Int) = (n : Int) - 1)⟩ := by unfold entAt; rw [List.getD_eq_getElem?_getD, hs, Hl.out]; rfl
      obtain ⟨lv, hlv⟩ : ∃ lv, labelS s = lv := ⟨_, rfl⟩
      rw [hlv] at HLs hEk
      have t1 : decide ((k : Int) < (n : Int)) = true := decide_eq_true (by omega)
      have t2 : decide (k < n) = true := decide_eq_true hlt
      have hlv1 : lv = -1 ∨ 0 ≤ lv := by rw [← hlv]; exact label_alt s
      have i0 : (0 : Int) ≤ (k : Int) := by omega
      have i1 : (k : Int) < (n : Int) := by omega
      have ewk : IntKind.i64.wrap ((k : Int) + 1) = (k : Int) + 1 := by rw [IntKind.wrap_i64]; omega
      have ewn : IntKind.i64.wrap ((n : Int) - 1) = (n : Int) - 1 := by rw [IntKind.wrap_i64]; omega
      have Hs := hid hs
      have Hlv := hid hlv
      by_cases hneg : lv < 0
      · have t3 : (lv == -1) = true := beq_iff_eq.2 (by omega)
        have HV : Hid (stackS l ttl = []) := stack_bad hs (by rw [hlv]; exact hneg)
        clear hs hc hlv hLv hEk hneg hlv1
        go_wp2_with (go_at_call 12; (with_reducible refine (HLs.out _).mono ?_); rintro e' w1 ⟨rfl, hb1⟩)
        go_ret
        rw [HV.out]
        exact ⟨_, rfl, World.ownsRow_nil _ _ _ _, (HB.out.alloc HB.out.size _).trans (hb1.mono (HB.out.alloc HB.out.size _).size)⟩
      · have t3 : (lv == -1) = false := beq_eq_false_iff_ne.2 (by omega)
        have HG2 : Hid (∀ (i : Nat) (s : Sg), i < k + 1 → l[i]? = some s → 0 ≤ labelS s) := fun i s' h1 h2 => by
          rcases Nat.lt_succ_iff_lt_or_eq.1 h1 with h3 | rfl
          · exact HG.out i s' h3 h2
          · rw [Hs.out] at h2; cases h2; rw [Hlv.out]; omega
        obtain ⟨ct, hct⟩ : ∃ ct, cutT ttl = ct := ⟨_, rfl⟩
        rw [hct] at hEk
        obtain ⟨mt, hmt⟩ : ∃ mt, (if ttl < 0 then (0 : Int) else ttl) = mt := ⟨_, rfl⟩
        have m1 : (if 255 < mt then (255 : Int) else mt) = ct := by rw [← hct, ← hmt]; unfold cutT; split <;> split <;> omega
        have hrow : (ecells [entAt l ttl k]).toArray = #[.int .i64 lv, .int .i64 0, .int .i64 ct, .bool (decide ((k : Int) = (n : Int) - 1))] := by rw [hEk]; rfl
        have heq : ((k : Int) == (n : Int) - 1) = decide ((k : Int) = (n : Int) - 1) := rfl
        obtain ⟨bl, hbl2⟩ : ∃ bl, decide ((k : Int) = (n : Int) - 1) = bl := ⟨_, rfl⟩
        rw [hbl2] at hrow heq
        have HRw := hid hrow
        have HRh := hid (fun (v8 : Value) (w8 : World) (h : w8.ownsRow w.heap.size 38 4 v8 (k + 1) (ecells (entsUp l ttl k) ++ ecells [entAt l ttl k])) => (by rw [hLv, ecells_app]; exact h : w8.ownsRow w.heap.size 38 4 v8 (k + 1) (ecells (entsUp l ttl (k + 1)))))
        clear hs hc hlv hLv hEk hneg hlv1 hct hrow
        go_wp2_with (first
          | (go_at_call 12; (with_reducible refine (HLs.out _).mono ?_); rintro e' w1 ⟨rfl, hb1⟩; have HO1 := hid (own_below (HO.out.alloc (.cells #[.bool s.edge, .int .i64 s.too] 26)) hb1); have HB1 := hid ((HB.out.alloc HB.out.size (.cells #[.bool s.edge, .int .i64 s.too] 26)).trans (hb1.mono (HB.out.alloc HB.out.size _).size)); clear hb1)
          | (at_builtin; refine wpList_append_own _ rfl (.tmp 23) (.tmp 34) 28 rfl w.heap.size 38 i5 (.agg #[.int .i64 0, .int .i64 0, .int .i64 0, .bool false]) 4 32 Try.underlying28 Ai.out Az0.out Az1.out Az2.out rfl (by decide) _ _ _ rfl (HO1.out.alloc _) ⟨w1.heap.size, 0, none⟩ 1 1 (ecells [entAt l ttl k]) rfl rfl (new_row HRw.out.symm) (ecells_one _) (by unfold maxLen; omega) (by omega) (by have := HB1.out.size; simp; omega) ?_; intro v8 w8 hown8 hg8 _; have HO8 := hid hown8; have HB8 := hid (Below.grown (HB1.out.alloc HB1.out.size _) hg8 (by have := HB1.out.size; simp; omega) (fun q hq => (HO1.out.lt q hq).1)); clear hown8))
        go_roundw
        case rel => exact ⟨k + 1, by omega, by go_num, HRh.out _ _ HO8.out, HG2.out, HB8.out⟩
        case measure => simp [intOf]; omega
    · obtain rfl : k = n := by omega
      have HV : Hid (stackS l ttl = entsUp l ttl k) := by
        show _ = _
        rw [stack_good (fun i s h => HG.out i s (by have := (List.getElem?_eq_some_iff.1 h).1; have := Hl.out; omega) h), Hl.out]
      have t1 : decide ((k : Int) < (k : Int)) = false := decide_eq_false (by omega)
      have t2 : decide (k < k) = false := decide_eq_false (by omega)
      go_wp2_with fail
      go_ret
      rw [HV.out, entsUp_len]
      exact ⟨_, rfl, HO.out, HB.out⟩
end Go.Proofs.Ytjblhajmnlcfaaa
