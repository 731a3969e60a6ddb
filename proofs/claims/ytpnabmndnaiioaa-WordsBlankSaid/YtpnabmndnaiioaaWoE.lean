/- WordsBlank. -/
import Derived.Test.YtpnabmndnaiioaaWoD
namespace Go.Proofs.Ytpnabmndnaiioaa
open Go.RowKit
set_option maxHeartbeats 12800000
set_option maxRecDepth 100000
theorem scan_len : ∀ (f i : Nat) (s : List UInt8), (scan f i s).1.length ≤ s.length := by
  intro f
  induction f with
  | zero => intro i s; simp [scan]
  | succ f ih =>
    intro i s
    cases s with
    | nil => simp [scan]
    | cons c r =>
      unfold scan
      split
      · have := ih (i + 1) r; simp only [List.length_cons]; omega
      · split
        · rename_i h
          have hd := drop_less (r := r) (show isRm c = true by rw [eq_of_beq h]; rfl)
          have := ih (i + ((c :: r).takeWhile isRm).length) ((c :: r).dropWhile isRm); simp only [List.length_cons]; omega
        · split
          · rename_i h
            have hd := drop_less (r := r) (show isWd c = true by unfold isWd; rw [h]; rfl)
            have := ih (i + ((c :: r).takeWhile isWd).length) ((c :: r).dropWhile isWd); simp only [List.length_cons]; omega
          · split
            · rename_i h
              have hd := drop_less (r := r) (show isNm c = true by unfold isNm; rw [h]; rfl)
              have := ih (i + ((c :: r).takeWhile isNm).length) ((c :: r).dropWhile isNm); simp only [List.length_cons]; omega
            · split
              · have := ih (i + 1) r; simp only [List.length_cons]; omega
              · simp
theorem scan_small : ∀ (f i : Nat) (s : List UInt8), ∀ t ∈ (scan f i s).1, t.text.length ≤ s.length := by
  intro f
  induction f with
  | zero => intro i s t h; simp [scan] at h
  | succ f ih =>
    intro i s t h
    cases s with
    | nil => simp [scan] at h
    | cons c r =>
      have hw : ∀ P : UInt8 → Bool, ((c :: r).takeWhile P).length ≤ (c :: r).length := fun P => (List.takeWhile_sublist P).length_le
      have hdr : ∀ P : UInt8 → Bool, ((c :: r).dropWhile P).length ≤ (c :: r).length := fun P => (List.dropWhile_sublist P).length_le
      unfold scan at h
      split at h
      · have := ih _ _ t h; simp only [List.length_cons]; omega
      · split at h
        · have := ih _ _ t h; have := hdr isRm; omega
        · split at h
          · rw [List.mem_cons] at h
            rcases h with rfl | h
            · exact hw isWd
            · have := ih _ _ t h; have := hdr isWd; omega
          · split at h
            · rw [List.mem_cons] at h
              rcases h with rfl | h
              · exact hw isNm
              · have := ih _ _ t h; have := hdr isNm; omega
            · split at h
              · rw [List.mem_cons] at h
                rcases h with rfl | h
                · simp
                · have := ih _ _ t h; simp only [List.length_cons]; omega
              · simp at h
theorem split_size {s : List UInt8} {D : List Tok} {a : Int} (h : splitS s = (D, a, 0)) : D.length ≤ s.length ∧ ∀ t ∈ D, t.text.length ≤ s.length := by
  unfold splitS at h
  split at h
  · simp at h
  · split at h
    · rename_i l' h2
      simp only [Prod.mk.injEq] at h
      have h3 : (scan (s.drop 0).length 0 (s.drop 0)).1 = D := by
        show (scanAt s 0).1 = D
        rw [h2]; exact h.1
      refine ⟨?_, fun t ht => ?_⟩
      · have := scan_len (s.drop 0).length 0 (s.drop 0); rw [h3] at this; simpa using this
      · have := scan_small (s.drop 0).length 0 (s.drop 0) t (by rw [h3]; exact ht); simpa using this
    · simp at h
theorem RStr.on {a b : World} {A : Option Addr} {n : Nat} {l : List (List UInt8)} (h : RStr a a.heap.size A n l) (hb : Below a.heap.size a b) : RStr b b.heap.size A n l := by
  refine ⟨h.1, fun hn => ?_⟩
  obtain ⟨c, off, hA, hc, hx⟩ := h.2 hn
  exact ⟨c, off, hA, Nat.lt_of_lt_of_le hc hb.size, fun i t ht => (hb.cell (p := ⟨c, _, none⟩) hc).trans (hx i t ht)⟩
/-- Which chunks a pad has. -/
def bitsOf (x : List UInt8) : List Bool := (x.take 20).map fun c => decide (c.toNat % 2 = 1)
theorem bits_len (x : List UInt8) : (bitsOf x).length = min 20 x.length := by unfold bitsOf; rw [List.length_map, List.length_take]
theorem padL_len (bs : List Bool) : (padL bs).length ≤ 1 + 5 * bs.length := by
  unfold padL
  rw [List.length_cons]
  have : (bs.flatMap fun b => if b then [35, 32, 120, 59, 10] else ([10, 32] : List UInt8)).length ≤ 5 * bs.length := by
    induction bs with
    | nil => simp
    | cons b bs ih =>
      rw [List.flatMap_cons, List.length_append]
      cases b <;> (simp only [List.length_cons]; simp at ih ⊢; omega)
  omega
theorem padL_snoc (bs : List Bool) (b : Bool) : padL (bs ++ [b]) = padL bs ++ if b then [35, 32, 120, 59, 10] else [10, 32] := by
  unfold padL
  rw [List.flatMap_append]
  simp
theorem odd_u8 (c : UInt8) : (bits .and .u8 (c.toNat : Int) 1 == 1) = decide (c.toNat % 2 = 1) := by
  have h1 : c.toNat < 256 := c.toNat_lt
  have h2 := u8_and_nat c.toNat 1 h1 (by decide)
  rw [show ((1 : Nat) : Int) = 1 from rfl] at h2
  rw [h2, Nat.and_one_is_mod, Bool.eq_iff_iff]
  simp only [beq_iff_eq, decide_eq_true_eq]
  omega
end Go.Proofs.Ytpnabmndnaiioaa
