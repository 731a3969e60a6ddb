/- HeapSorts. -/
import Derived.Test.YtmnlbefmgolciaaHpE
import Derived.Test.YtmnlbefmgolciaaHpO
namespace Go.Proofs.Ytmnlbefmgolciaa
open Go.RowKit
set_option maxHeartbeats 6400000
set_option maxRecDepth 100000
/-- What the law pushes. -/
def prs (l : List Int) (k : Nat) : List (Int × Int) := (List.range k).map fun (i : Nat) => (l.getD i 0, -(i : Int))
theorem prs_succ {l : List Int} {k : Nat} {x : Int} (h : l[k]? = some x) : prs l (k + 1) = prs l k ++ [(x, -(k : Int))] := by
  simp [prs, List.range_succ, h]
theorem prs_len (l : List Int) (k : Nat) : (prs l k).length = k := by simp [prs]
/-- What is left in a heap of which the law's pairs were taken: each of them once, each one of the law's, all behind the last that was taken. -/
def Left (l : List Int) (n j : Nat) (wk wv : Int) (T : List (Int × Int)) : Prop :=
  T.length + j = n ∧ (∀ p ∈ T, ∃ q : Nat, q < n ∧ l[q]? = some p.1 ∧ p.2 = -(q : Int)) ∧ (T.map Prod.snd).Nodup ∧ (0 < j → ∀ p ∈ T, wk < p.1 ∨ wk = p.1 ∧ wv < p.2)
theorem left_start {l : List Int} {n : Nat} {T : List (Int × Int)} (hl : l.length = n) (h : T.Perm (prs l n)) : Left l n 0 0 0 T := by
  refine ⟨by rw [h.length_eq, prs_len]; rfl, fun p hp => ?_, ?_, fun h => by omega⟩
  · have := h.mem_iff.1 hp
    simp only [prs, List.mem_map, List.mem_range] at this
    obtain ⟨q, hq, rfl⟩ := this
    refine ⟨q, hq, ?_, rfl⟩
    show l[q]? = some (l.getD q 0)
    rw [List.getD_eq_getElem?_getD, List.getElem?_eq_getElem (by omega)]; rfl
  · have h2 : (T.map Prod.snd).Perm ((prs l n).map Prod.snd) := h.map _
    refine h2.nodup_iff.2 ?_
    simp only [prs, List.map_map]
    show ((List.range n).map fun i : Nat => -(i : Int)).Nodup
    exact List.pairwise_map.2 (List.Pairwise.imp (fun {a b} h e => h (by omega)) List.nodup_range)
theorem left_next {l : List Int} {n j : Nat} {wk wv k v : Int} {R R' : List (Int × Int)} (h : Left l n j wk wv ((k, v) :: R)) (ho : ∀ p ∈ R, le2 (k, v) p) (hp : R'.Perm R) : Left l n (j + 1) k v R' := by
  obtain ⟨h1, h2, h3, _⟩ := h
  refine ⟨by rw [hp.length_eq]; simp at h1; omega, fun p hm => h2 p (List.mem_cons_of_mem _ (hp.mem_iff.1 hm)), ?_, fun _ p hm => ?_⟩
  · refine (hp.map Prod.snd).nodup_iff.2 ?_
    exact (List.nodup_cons.1 h3).2
  · have hm' := hp.mem_iff.1 hm
    have hle := ho p hm'
    have hne : v ≠ p.2 := by
      intro e
      have := (List.nodup_cons.1 h3).1
      exact this (by show v ∈ R.map Prod.snd; rw [e]; exact List.mem_map_of_mem hm')
    unfold le2 at hle
    simp only at hle
    omega
theorem sorts_out (A : Option Addr) (n c : Nat) (w : World) (h : 500 < n) :
    Calls Try.prog 4 #[.slice A n c] w fun e w' => e = .returned (.bool true) ∧ Below w.heap.size w w' := by
  have t : decide ((500 : Int) < (n : Int)) = true := by simp; omega
  clear h
  go_enter Try.func4, Try.ntmps4
  go_wp2_with (go_at_call 5; (with_reducible refine (alive_any _).mono ?_); rintro e' w1 ⟨rfl, hb1⟩)
  go_ret
  exact ⟨rfl, hb1⟩
theorem sorts_in (A : Option Addr) (n c : Nat) (l : List Int) (w : World) (hr : RNum w w.heap.size A n l) (hn : n ≤ 500) :
    Calls Try.prog 4 #[.slice A n c] w fun e w' => e = .returned (.bool true) ∧ Below w.heap.size w w' := by
  have t : decide ((500 : Int) < (n : Int)) = false := by simp; omega
  have HR := hid hr
  have Hl := hid hr.1
  clear hr
  go_enter Try.func4, Try.ntmps4
  go_wp2_with (go_at_call 5; (with_reducible refine (alive_any _).mono ?_); rintro e' w1 ⟨rfl, hb1⟩)
  have hs1 := hb1.size
  have H0 := hid (heap_new w1)
  have b0 : Below w.heap.size w (w1.alloc (.cells #[.pointer none] 27)) := hb1.alloc hs1 _
  go_loopw [5] (fun i wr => ∃ (k : Nat) (T : HT), k ≤ n ∧ i = .int .i64 k ∧ Hid (HeapAt wr w1.heap.size T) ∧ Hid (T.all.Perm (prs l k)) ∧ Below w.heap.size w wr) (fun i _ => n - (intOf i).toNat)
  case atStart => exact ⟨0, .nil, Nat.zero_le _, rfl, H0.out, List.Perm.refl _, b0⟩
  case round =>
    obtain ⟨k, T, hk, rfl, HTr, HP, hbel⟩ := hrel
    by_cases hlt : k < n
    · obtain ⟨x, hx⟩ : ∃ x, l[k]? = some x := ⟨l[k]'(by rw [Hl.out]; omega), List.getElem?_eq_getElem _⟩
      obtain ⟨b, off, rfl, hb, hc⟩ := (HR.out.below hbel).2.2 (by omega)
      have c0 := hc k x hx
      have Hx := hid hx
      clear hc hx
      have HPu := hid (push_any w1.heap.size x (-(k : Int)) T wr HTr.out (by have := perm_cnt HP.out; rw [prs_len] at this; omega))
      go_wp2_with (go_at_call 6; go_loud ((with_reducible refine HPu.out.mono ?_); rintro e' w2 ⟨rfl, T', hT, pT, hg⟩; have HT2 := hid hT; have HP2 := hid pT; have hb2 := hbel.trans (gb_below hg hs1 hbel.size); clear hT pT hg))
      go_roundw
      case rel => exact ⟨k + 1, T', by omega, by go_num, HT2.out, HP2.out.trans (by rw [prs_succ Hx.out]; exact (HP.out.cons _).trans (List.perm_append_singleton _ _).symm), hb2⟩
      case measure => simp [intOf]; omega
    · obtain rfl : k = n := by omega
      have HP0 := hid (left_start Hl.out HP.out)
      have Hcnt := hid (perm_cnt HP.out)
      rw [prs_len] at Hcnt
      go_wp2_with fail
      go_loopw [6, 7, 8] (fun a b i w2 => ∃ (j : Nat) (wk wv : Int) (T2 : HT), j ≤ k ∧ a = .int .i64 wk ∧ b = .int .i64 wv ∧ i = .int .i64 j ∧ Hid (HeapAt w2 w1.heap.size T2) ∧ Hid (Left l k j wk wv T2.all) ∧ Below w.heap.size w w2) (fun _ _ i _ => k - (intOf i).toNat)
      case atStart => exact ⟨0, 0, 0, T, Nat.zero_le _, rfl, rfl, rfl, HTr.out, HP0.out, hbel⟩
      case round =>
        obtain ⟨j, wk, wv, T2, hj, rfl, rfl, rfl, HT2, HL, hbel2⟩ := hrel
        have hcnt : T2.cnt + j = k := by rw [← HT.len]; exact HL.out.1
        by_cases hjk : j < k
        · obtain ⟨g, x, y, m, f, rfl⟩ : ∃ g x y m f, T2 = .node g x y m f := top_of (List.Perm.refl _) (by rw [HT.len]; omega)
          obtain ⟨q, hq, hlq, hy⟩ := HL.out.2.1 (x, y) (by simp [HT.all])
          simp only at hlq hy
          subst hy
          have hgt : 0 < j → wk < x ∨ wk = x ∧ wv < -(q : Int) := fun h => HL.out.2.2.2 h (x, -(q : Int)) (by simp [HT.all])
          obtain ⟨b, off, rfl, hb, hc⟩ := (HR.out.below hbel2).2.2 (by omega)
          have c0 := hc q x hlq
          have HPo := hid (pop_some w1.heap.size g x (-(q : Int)) m f wr HT2.out (by omega))
          clear hc hlq
          have sq : decide (k ≤ q) = false := by simp; omega
          have HNx := hid (fun (R' : List (Int × Int)) (h : R'.Perm (m.all ++ f.all)) => left_next HL.out HT2.out.2.2.1 h)
          have HC := hid (show j + 1 ≤ k by omega)
          rcases (show j = 0 ∨ (0 < j ∧ wk < x) ∨ (0 < j ∧ wk = x ∧ wv < -(q : Int)) by omega) with rfl | ⟨hj0, hwx⟩ | ⟨hj0, rfl, hwx⟩
          all_goals clear hgt hcnt hjk hj
          · go_wp2_with (go_at_call 7; (with_reducible refine HPo.out.mono ?_); rintro e' w3 ⟨rfl, T', hT, pT, hg⟩; have HT3 := hid hT; have HP3 := hid pT; have hg3 := gb_below hg hs1 hbel2.size; have hb3 := hbel2.trans hg3; have c3 := (hg3.cell (p := ⟨b, off + q, none⟩) hb).trans c0; clear hT pT hg)
            go_roundw
            case rel => exact ⟨1, x, -(q : Int), T', HC.out, rfl, rfl, rfl, HT3.out, HNx.out _ HP3.out, hb3⟩
            case measure => have := HC.out; simp [intOf]; omega
          · have s1 : decide (x < wk) = false := by simp; omega
            have s2 : (x == wk) = false := by simp; omega
            have s3 : decide (0 < j) = true := by simpa using hj0
            go_wp2_with (go_at_call 7; (with_reducible refine HPo.out.mono ?_); rintro e' w3 ⟨rfl, T', hT, pT, hg⟩; have HT3 := hid hT; have HP3 := hid pT; have hg3 := gb_below hg hs1 hbel2.size; have hb3 := hbel2.trans hg3; have c3 := (hg3.cell (p := ⟨b, off + q, none⟩) hb).trans c0; clear hT pT hg)
            go_roundw
            case rel => exact ⟨j + 1, x, -(q : Int), T', HC.out, rfl, rfl, by go_num, HT3.out, HNx.out _ HP3.out, hb3⟩
            case measure => have := HC.out; simp [intOf]; omega
          · have s1 : decide (wk < wk) = false := by simp
            have s2 : decide (-(q : Int) ≤ wv) = false := by simp; omega
            have s3 : decide (0 < j) = true := by simpa using hj0
            go_wp2_with (go_at_call 7; (with_reducible refine HPo.out.mono ?_); rintro e' w3 ⟨rfl, T', hT, pT, hg⟩; have HT3 := hid hT; have HP3 := hid pT; have hg3 := gb_below hg hs1 hbel2.size; have hb3 := hbel2.trans hg3; have c3 := (hg3.cell (p := ⟨b, off + q, none⟩) hb).trans c0; clear hT pT hg)
            go_roundw
            case rel => exact ⟨j + 1, wk, -(q : Int), T', HC.out, rfl, rfl, by go_num, HT3.out, HNx.out _ HP3.out, hb3⟩
            case measure => have := HC.out; simp [intOf]; omega
        · obtain rfl : j = k := by omega
          have h0 : T2 = .nil := by
            cases T2 with
            | nil => rfl
            | node => simp [HT.cnt] at hcnt
          subst h0
          have HPo := hid (pop_none w1.heap.size wr HT2.out)
          clear hcnt hjk hj
          go_wp2_with (go_at_call 7; (with_reducible refine HPo.out.mono ?_); rintro e' w3 ⟨rfl, rfl⟩)
          go_ret
          exact ⟨rfl, hbel2⟩
theorem sorts_any (A : Option Addr) (n c : Nat) (l : List Int) (w : World) (hr : RNum w w.heap.size A n l) :
    Calls Try.prog 4 #[.slice A n c] w fun e w' => e = .returned (.bool true) ∧ Below w.heap.size w w' := by
  by_cases h : 500 < n
  · exact sorts_out A n c w h
  · exact sorts_in A n c l w hr (by omega)
end Go.Proofs.Ytmnlbefmgolciaa
