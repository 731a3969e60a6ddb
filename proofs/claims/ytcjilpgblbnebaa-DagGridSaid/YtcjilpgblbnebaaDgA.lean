/- Shortest ways counted, plainly: how many, the fewest and the most edges. -/
import Derived.Test.YtcjilpgblbnebaaSpM
namespace Go.Proofs.Ytcjilpgblbnebaa
open Go.RowKit
set_option maxHeartbeats 1600000
set_option maxRecDepth 100000
def minL : List Nat → Nat
  | [] => 0
  | x :: r => r.foldl min x
def maxL (L : List Nat) : Nat := L.foldl max 0
theorem minL_snoc (L : List Nat) (y : Nat) : minL (L ++ [y]) = if L.length = 0 then y else min (minL L) y := by
  cases L with
  | nil => rfl
  | cons x r => simp [minL, List.foldl_append]
theorem maxL_snoc (L : List Nat) (y : Nat) : maxL (L ++ [y]) = max (maxL L) y := by simp [maxL, List.foldl_append]
/-- A node's three numbers from those of the nodes ahead. -/
def trip (L : List (Nat × Nat × Nat)) : Nat × Nat × Nat := ((L.map (·.1)).sum, minL (L.map (fun t => t.2.1 + 1)), maxL (L.map (fun t => t.2.2 + 1)))
theorem trip_snoc (L : List (Nat × Nat × Nat)) (t : Nat × Nat × Nat) : trip (L ++ [t]) = ((trip L).1 + t.1, (if L.length = 0 then t.2.1 + 1 else min (trip L).2.1 (t.2.1 + 1)), max (trip L).2.2 (t.2.2 + 1)) := by
  unfold trip
  rw [List.map_append, List.map_append, List.map_append]
  simp only [List.map_cons, List.map_nil, minL_snoc, maxL_snoc, List.sum_append, List.length_map, List.sum_cons, List.sum_nil, Nat.add_zero]
def trF (nx : Nat → List Nat) (D : List Int) : Nat → Nat → Nat × Nat × Nat
  | 0, v => if dAt D (v : Int) = 0 then (1, 0, 0) else (0, 0, 0)
  | f + 1, v => if dAt D (v : Int) = 0 then (1, 0, 0) else trip ((nx v).map (trF nx D f))
/-- Ahead it is nearer. -/
def Nearer (nx : Nat → List Nat) (D : List Int) : Prop := ∀ (v b : Nat), b ∈ nx v → 0 ≤ dAt D (b : Int) ∧ dAt D (b : Int) < dAt D (v : Int)
theorem trF_same {nx : Nat → List Nat} {D : List Int} (h : Nearer nx D) : ∀ (f g v : Nat), (dAt D (v : Int)).toNat ≤ f → (dAt D (v : Int)).toNat ≤ g → trF nx D f v = trF nx D g v := by
  have hnil : ∀ v : Nat, dAt D (v : Int) ≤ 0 → nx v = [] := by
    intro v hv
    rw [List.eq_nil_iff_forall_not_mem]
    intro b hb
    have := h v b hb
    omega
  intro f
  induction f with
  | zero =>
    intro g v hf hg
    cases g with
    | zero => rfl
    | succ g =>
      simp only [trF]
      rw [hnil v (by omega)]
      rfl
  | succ f ih =>
    intro g v hf hg
    cases g with
    | zero =>
      simp only [trF]
      rw [hnil v (by omega)]
      rfl
    | succ g =>
      simp only [trF]
      split
      · rfl
      · congr 1
        refine List.map_congr_left fun b hb => ?_
        have := h v b hb
        exact ih g b (by omega) (by omega)
def tr (nx : Nat → List Nat) (D : List Int) (v : Nat) : Nat × Nat × Nat := trF nx D (dAt D (v : Int)).toNat v
theorem tr_zero {nx : Nat → List Nat} {D : List Int} {v : Nat} (hv : dAt D (v : Int) = 0) : tr nx D v = (1, 0, 0) := by
  unfold tr
  rw [hv]
  show trF nx D 0 v = _
  simp only [trF]
  rw [if_pos hv]
theorem tr_step {nx : Nat → List Nat} {D : List Int} (h : Nearer nx D) {v : Nat} (hv : 0 < dAt D (v : Int)) : tr nx D v = trip ((nx v).map (tr nx D)) := by
  unfold tr
  obtain ⟨f, hf⟩ : ∃ f, (dAt D (v : Int)).toNat = f + 1 := ⟨(dAt D (v : Int)).toNat - 1, by omega⟩
  rw [hf]
  simp only [trF]
  rw [if_neg (by omega)]
  congr 1
  refine List.map_congr_left fun b hb => ?_
  have := h v b hb
  exact trF_same h _ _ _ (by omega) (Nat.le_refl _)
theorem minL_le {L : List Nat} {x : Nat} (h : ∀ y ∈ L, y ≤ x) : minL L ≤ x := by
  cases L with
  | nil => exact Nat.zero_le _
  | cons a r =>
    show r.foldl min a ≤ x
    have h1 : ∀ (r : List Nat) (a : Nat), r.foldl min a ≤ a := by
      intro r
      induction r with
      | nil => intro a; exact Nat.le_refl _
      | cons b r ih => intro a; exact Nat.le_trans (ih _) (Nat.min_le_left _ _)
    exact Nat.le_trans (h1 r a) (h a (by simp))
theorem maxL_le {L : List Nat} {x : Nat} (h : ∀ y ∈ L, y ≤ x) : maxL L ≤ x := by
  have h1 : ∀ (r : List Nat) (a : Nat), a ≤ x → (∀ y ∈ r, y ≤ x) → r.foldl max a ≤ x := by
    intro r
    induction r with
    | nil => intro a ha _; exact ha
    | cons b r ih => intro a ha hr; exact ih _ (Nat.max_le.2 ⟨ha, hr b (by simp)⟩) (fun y hy => hr y (by simp [hy]))
  exact h1 L 0 (Nat.zero_le _) h
/-- No more edges than the length. -/
theorem tr_le {nx : Nat → List Nat} {D : List Int} (h : Nearer nx D) : ∀ (f v : Nat), (dAt D (v : Int)).toNat ≤ f → 0 ≤ dAt D (v : Int) → (tr nx D v).2.1 ≤ f ∧ (tr nx D v).2.2 ≤ f := by
  intro f
  induction f with
  | zero =>
    intro v hf h0
    rw [tr_zero (by omega)]
    exact ⟨Nat.le_refl _, Nat.le_refl _⟩
  | succ f ih =>
    intro v hf h0
    by_cases hv : dAt D (v : Int) = 0
    · rw [tr_zero hv]; exact ⟨Nat.zero_le _, Nat.zero_le _⟩
    · rw [tr_step h (by omega)]
      refine ⟨minL_le fun y hy => ?_, maxL_le fun y hy => ?_⟩
      · simp only [List.mem_map] at hy
        obtain ⟨t, ⟨b, hb, rfl⟩, rfl⟩ := hy
        have := h v b hb
        have := (ih b (by omega) this.1).1
        omega
      · simp only [List.mem_map] at hy
        obtain ⟨t, ⟨b, hb, rfl⟩, rfl⟩ := hy
        have := h v b hb
        have := (ih b (by omega) this.1).2
        omega
/-- The nodes ahead, an edge each. -/
def nxL (nd : Nat) (l : List Lnk) (dn : List Bool) (D : List Int) (v : Nat) : List Nat := (nextS (nd : Int) l dn D (v : Int)).map (fun e => (tov l e.toNat).toNat)
theorem nextS_mem {nd : Nat} {l : List Lnk} {dn : List Bool} {D : List Int} {v : Nat} {e : Int} (hg : GOk nd l) (h : e ∈ nextS (nd : Int) l dn D (v : Int)) : ∃ (k b : Nat), e = (k : Int) ∧ k < 2 * l.length ∧ isDn dn (k / 2) = false ∧ endsS l e = ((v : Int), (b : Int), true) ∧ tov l k = (b : Int) ∧ b < nd ∧ 0 ≤ dAt D (b : Int) ∧ dAt D (b : Int) < dAt D (v : Int) ∧ dAt D (v : Int) - dAt D (b : Int) = met l k := by
  unfold nextS at h
  split at h
  · obtain ⟨h1, h2⟩ := List.mem_filter.1 h
    obtain ⟨k, hk, rfl, hf⟩ := mem_outS.1 h1
    obtain ⟨a, b, x, _, he, hfa, hto, hm, _, hb, _, hm1, _⟩ := edge_facts hg hk
    unfold onS at h2
    simp only [Int.toNat_natCast, Bool.and_eq_true, decide_eq_true_eq, beq_iff_eq, Bool.not_eq_true'] at h2
    rw [hto] at h2
    rw [he] at hf ⊢
    simp only at hf
    exact ⟨k, b, rfl, hk, h2.1.1, by rw [hf], hto, hb, h2.1.2, by omega, h2.2⟩
  · cases h
theorem nearer {nd : Nat} {l : List Lnk} {dn : List Bool} {D : List Int} (hg : GOk nd l) : Nearer (nxL nd l dn D) D := by
  intro v b hb
  unfold nxL at hb
  simp only [List.mem_map] at hb
  obtain ⟨e, he, rfl⟩ := hb
  obtain ⟨k, b, rfl, _, _, _, hto, _, h0, h1, _⟩ := nextS_mem hg he
  rw [Int.toNat_natCast, hto, Int.toNat_natCast]
  exact ⟨h0, h1⟩
end Go.Proofs.Ytcjilpgblbnebaa
