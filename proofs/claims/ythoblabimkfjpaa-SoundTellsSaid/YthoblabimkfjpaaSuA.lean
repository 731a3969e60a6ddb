/- Stable sorting, plainly: rows whose elements carry the place where they stood (a ghost); insertion, binary insertion, rotation, the merge by halves. -/
import Derived.Sort.LotA
namespace Go.Proofs.Ythoblabimkfjpaa
open Go.Sort
set_option maxHeartbeats 3200000
set_option maxRecDepth 100000
section
variable {α : Type} [Inhabited α] (pr : α → Int) (tg : α → Nat)
/-- Less, as the comparison tells it: the greater number first. -/
def ltP (x y : α) : Bool := decide (pr y < pr x)
/-- Before: the greater number first, and of one number as they stood. -/
def BfT (x y : α) : Prop := pr y < pr x ∨ (pr x = pr y ∧ tg x < tg y)
def SoT (d : Array α) (a b : Nat) : Prop := ∀ i j, a ≤ i → i < j → j < b → BfT pr tg d[i]! d[j]!
/-- Each of [a, m) stood ahead of each of [m, b). -/
def Sep (d : Array α) (a m b : Nat) : Prop := ∀ i j, a ≤ i → i < m → m ≤ j → j < b → tg d[i]! < tg d[j]!
def Ris (d : Array α) (a b : Nat) : Prop := ∀ i j, a ≤ i → i < j → j < b → tg d[i]! < tg d[j]!
/-- Each of [a, m) is before each of [m, b). -/
def Crs (d : Array α) (a m b : Nat) : Prop := ∀ i j, a ≤ i → i < m → m ≤ j → j < b → BfT pr tg d[i]! d[j]!
variable {pr tg}
omit [Inhabited α] in
theorem BfT.trans {x y z : α} (h : BfT pr tg x y) (h' : BfT pr tg y z) : BfT pr tg x z := by
  unfold BfT at *; omega
omit [Inhabited α] in
theorem BfT.irr {x y : α} (h : BfT pr tg x y) (h' : BfT pr tg y x) : False := by
  unfold BfT at *; omega
omit [Inhabited α] in
/-- The later of two is less just where it is before. -/
theorem bef_of_lt {x y : α} (h : ltP pr y x = true) : BfT pr tg y x := by
  unfold ltP at h; simp at h; exact Or.inl h
omit [Inhabited α] in
theorem bef_of_not {x y : α} (ht : tg x < tg y) (h : ltP pr y x = false) : BfT pr tg x y := by
  unfold ltP at h; simp at h; unfold BfT; omega
theorem SoT.join {d : Array α} {a m b : Nat} (h1 : SoT pr tg d a m) (h2 : SoT pr tg d m b) (h3 : Crs pr tg d a m b) : SoT pr tg d a b := by
  intro i j hi hij hj
  by_cases hjm : j < m
  · exact h1 i j hi hij hjm
  · by_cases him : i < m
    · exact h3 i j hi him (by omega) hj
    · exact h2 i j (by omega) hij hj
/-! ### Insertion -/
structure InsT (pr : α → Int) (tg : α → Nat) (a j i : Nat) (d : Array α) : Prop where
  rest : ∀ p q, a ≤ p → p < q → q ≤ i → p ≠ j → q ≠ j → BfT pr tg d[p]! d[q]!
  right : ∀ q, j < q → q ≤ i → BfT pr tg d[j]! d[q]!
  left : ∀ p, a ≤ p → p ≤ i → p ≠ j → tg d[p]! < tg d[j]!
theorem InsT.stop {a j i : Nat} {d : Array α} (h : InsT pr tg a j i d) (haj : a ≤ j) (hji : j ≤ i) (hs : j ≤ a ∨ ltP pr d[j]! d[j - 1]! = false) : SoT pr tg d a (i + 1) := by
  intro p q hap hpq hqi
  by_cases hq : q = j
  · subst hq
    rcases hs with hs | hs
    · omega
    · have h1 : BfT pr tg d[q - 1]! d[q]! := bef_of_not (h.left (q - 1) (by omega) (by omega) (by omega)) hs
      by_cases hp : p = q - 1
      · subst hp; exact h1
      · exact (h.rest p (q - 1) hap (by omega) (by omega) (by omega) (by omega)).trans h1
  · by_cases hp : p = j
    · subst hp; exact h.right q hpq (by omega)
    · exact h.rest p q hap hpq (by omega) hp hq
theorem InsT.step {a j i : Nat} {d : Array α} (h : InsT pr tg a (j + 1) i d) (hl : ltP pr d[j + 1]! d[j]! = true) (haj : a ≤ j) (hji : j + 1 ≤ i) (hsz : j + 1 < d.size) : InsT pr tg a j i (swp d (j + 1) j) := by
  have g := swp_get d hsz (show j < d.size by omega)
  constructor
  · intro p q hap hpq hqi hp hq
    rw [g, g]
    by_cases hq1 : q = j + 1
    · subst hq1
      rw [if_neg (by omega), if_neg (by omega), if_neg (by omega), if_pos rfl]
      exact h.rest p j hap (by omega) (by omega) (by omega) (by omega)
    · by_cases hp1 : p = j + 1
      · subst hp1
        rw [if_neg (by omega), if_pos rfl, if_neg (by omega), if_neg (by omega)]
        exact h.rest j q haj (by omega) hqi (by omega) (by omega)
      · rw [if_neg (by omega), if_neg (by omega), if_neg (by omega), if_neg (by omega)]
        exact h.rest p q hap hpq hqi hp1 hq1
  · intro q hjq hqi
    rw [g, g]
    rw [if_pos rfl, if_neg (by omega)]
    by_cases hq1 : q = j + 1
    · rw [if_pos hq1]; exact bef_of_lt hl
    · rw [if_neg hq1]; exact h.right q (by omega) hqi
  · intro p hap hpi hp
    rw [g, g]
    rw [if_neg hp, if_pos (rfl : j = j)]
    by_cases hp1 : p = j + 1
    · rw [if_pos hp1]; exact h.left j haj (by omega) (by omega)
    · rw [if_neg hp1]; exact h.left p hap hpi hp1
theorem insInner_stable {a i : Nat} : ∀ (j : Nat) (d : Array α), InsT pr tg a j i d → a ≤ j → j ≤ i → i < d.size → SoT pr tg (insInner (ltP pr) a j d) a (i + 1) ∧ PermIn a (i + 1) d (insInner (ltP pr) a j d) := by
  intro j
  induction j with
  | zero => intro d h haj hji hs; unfold insInner; exact ⟨h.stop haj hji (Or.inl (by omega)), permIn_refl _ _ _⟩
  | succ j ih =>
    intro d h haj hji hs
    unfold insInner
    by_cases hc : (decide (j + 1 > a) && ltP pr d[j + 1]! d[j]!) = true
    · rw [if_pos hc]
      simp only [Bool.and_eq_true, decide_eq_true_eq] at hc
      obtain ⟨r1, r2⟩ := ih (swp d (j + 1) j) (h.step hc.2 (by omega) hji (by omega)) (by omega) (by omega) (by rw [size_swp]; exact hs)
      exact ⟨r1, permIn_trans _ _ _ _ _ (swp_permIn d a (i + 1) (j + 1) j (by omega) (by omega) (by omega) (by omega) (by omega)) r2⟩
    · rw [if_neg hc]
      refine ⟨h.stop haj hji ?_, permIn_refl _ _ _⟩
      simp only [Bool.and_eq_true, decide_eq_true_eq, not_and, Bool.not_eq_true] at hc
      by_cases h1 : j + 1 > a
      · exact Or.inr (hc h1)
      · exact Or.inl (by omega)
/-- What stands behind a permutation of a part: one of that part. -/
theorem perm_of {a b : Nat} {d d' : Array α} (hb : b ≤ d.size) (h : PermIn a b d d') : ∀ i, a ≤ i → i < b → ∃ j, a ≤ j ∧ j < b ∧ d'[i]! = d[j]! :=
  permIn_all (α := α) d d' a b (fun x => ∃ j, a ≤ j ∧ j < b ∧ x = d[j]!) hb h (fun i h1 h2 => ⟨i, h1, h2, rfl⟩)
theorem insOuter_stable {a b : Nat} : ∀ (f i : Nat) (d : Array α), b - i ≤ f → a < i → i ≤ b → b ≤ d.size → SoT pr tg d a i → Sep tg d a i b → Ris tg d i b → SoT pr tg (insOuter (ltP pr) a b i d) a b ∧ PermIn a b d (insOuter (ltP pr) a b i d) := by
  intro f
  induction f with
  | zero =>
    intro i d hf hai hib hb h1 _ _
    unfold insOuter
    rw [if_neg (by omega)]
    have : i = b := by omega
    subst this
    exact ⟨h1, permIn_refl _ _ _⟩
  | succ f ih =>
    intro i d hf hai hib hb h1 h2 h3
    unfold insOuter
    by_cases hlt : i < b
    · rw [if_pos hlt]
      obtain ⟨r1, r2⟩ := insInner_stable (pr := pr) (tg := tg) (a := a) (i := i) i d ⟨fun p q hp hpq hq hpi hqi => h1 p q hp hpq (by omega), fun q hq1 hq2 => by omega, fun p hp hpi hne => h2 p i hp (by omega) (Nat.le_refl _) hlt⟩ (by omega) (Nat.le_refl _) (by omega)
      have hsz := r2.1
      have hout : ∀ q, i + 1 ≤ q → (insInner (ltP pr) a i d)[q]! = d[q]! := fun q hq => r2.2.1 q (Or.inr hq)
      obtain ⟨s1, s2⟩ := ih (i + 1) (insInner (ltP pr) a i d) (by omega) (by omega) (by omega) (by rw [hsz]; exact hb) r1
        (fun p q hp hpi hq hqb => by
          rw [hout q hq]
          obtain ⟨p', hp1, hp2, he⟩ := perm_of (by omega) r2 p hp hpi
          rw [he]
          by_cases hpe : p' = i
          · rw [hpe]; exact h3 i q (Nat.le_refl _) (by omega) hqb
          · exact h2 p' q hp1 (by omega) (by omega) hqb)
        (fun p q hp hpq hq => by rw [hout p hp, hout q (by omega)]; exact h3 p q (by omega) hpq hq)
      exact ⟨s1, permIn_trans _ _ _ _ _ (permIn_mono _ _ a (i + 1) a b (Nat.le_refl _) (by omega) hb r2) s2⟩
    · rw [if_neg hlt]
      have : i = b := by omega
      subst this
      exact ⟨h1, permIn_refl _ _ _⟩
theorem insertion_stable {a b : Nat} {d : Array α} (hab : a < b) (hb : b ≤ d.size) (h : Ris tg d a b) : SoT pr tg (insertionSort (ltP pr) d a b) a b ∧ PermIn a b d (insertionSort (ltP pr) d a b) :=
  insOuter_stable (b - (a + 1)) (a + 1) d (Nat.le_refl _) (by omega) (by omega) hb (fun i j _ _ _ => by omega) (fun i j hi him hj hjb => h i j hi (by omega) hjb) (fun i j hi hij hj => h i j (by omega) hij hj)
/-! ### Rotation: where each place's element comes from -/
def rotI (a m b t : Nat) : Nat := if t < a then t else if t < a + (b - m) then t + (m - a) else if t < b then t - (b - m) else t
def swrI (x y n t : Nat) : Nat := if x ≤ t ∧ t < x + n then t - x + y else if y ≤ t ∧ t < y + n then t - y + x else t
theorem rot_big {m i j : Nat} (hij : j < i) (him : i ≤ m) (t : Nat) : swrI (m - i) m j (rotI (m - i + j) m (m + j) t) = rotI (m - i) m (m + j) t := by
  unfold rotI swrI
  repeat' split
  all_goals omega
theorem rot_small {m i j : Nat} (hij : i < j) (him : i ≤ m) (t : Nat) : swrI (m - i) (m + j - i) i (rotI (m - i) m (m + (j - i)) t) = rotI (m - i) m (m + j) t := by
  unfold rotI swrI
  repeat' split
  all_goals omega
theorem rot_same {m i : Nat} (him : i ≤ m) (t : Nat) : swrI (m - i) m i t = rotI (m - i) m (m + i) t := by
  unfold rotI swrI
  repeat' split
  all_goals omega
/-! ### The merge by halves -/
/-- What a step of the merge leaves: two halves, each of two sorted parts, all of the one before all of the other. -/
theorem sym_step {d d1 : Array α} {a m b mid start : Nat} (ham : a < m) (hmb : m < b) (hmid : mid = (a + b) / 2)
    (h1 : SoT pr tg d a m) (h2 : SoT pr tg d m b) (h3 : Sep tg d a m b)
    (hlo : a ≤ start ∧ mid + m ≤ start + b) (hhi : start ≤ m ∧ start ≤ mid)
    (hL : a < start → mid + m < start + b → BfT pr tg d[start - 1]! d[mid + m - start]!) (hR : start < m → start < mid → BfT pr tg d[mid + m - start - 1]! d[start]!)
    (hd : ∀ t, d1[t]! = d[rotI start m (mid + m - start) t]!) :
    SoT pr tg d1 a start ∧ SoT pr tg d1 start mid ∧ Sep tg d1 a start mid ∧ SoT pr tg d1 mid (mid + m - start) ∧ SoT pr tg d1 (mid + m - start) b ∧ Sep tg d1 mid (mid + m - start) b ∧ Crs pr tg d1 a mid b := by
  have hmb2 : a < mid ∧ mid < b := by omega
  have i1 : ∀ t, t < start → rotI start m (mid + m - start) t = t := fun t ht => by unfold rotI; rw [if_pos ht]
  have i2 : ∀ t, start ≤ t → t < mid → rotI start m (mid + m - start) t = t + (m - start) := fun t h h' => by unfold rotI; rw [if_neg (by omega), if_pos (by omega)]
  have i3 : ∀ t, mid ≤ t → t < mid + m - start → rotI start m (mid + m - start) t = t - (mid - start) := fun t h h' => by unfold rotI; rw [if_neg (by omega), if_neg (by omega), if_pos h']; omega
  have i4 : ∀ t, mid + m - start ≤ t → rotI start m (mid + m - start) t = t := fun t h => by unfold rotI; rw [if_neg (by omega), if_neg (by omega), if_neg (by omega)]
  have hLL : ∀ i j, a ≤ i → i < start → mid + m - start ≤ j → j < b → BfT pr tg d[i]! d[j]! := fun i j hi hi2 hj hj2 => by
    have k := hL (by omega) (by omega)
    have k1 : BfT pr tg d[i]! d[mid + m - start]! := by
      by_cases hie : i = start - 1
      · rw [hie]; exact k
      · exact (h1 i (start - 1) hi (by omega) (by omega)).trans k
    by_cases hje : j = mid + m - start
    · rw [hje]; exact k1
    · exact k1.trans (h2 (mid + m - start) j (by omega) (by omega) hj2)
  have hRR : ∀ i j, m ≤ i → i < mid + m - start → start ≤ j → j < m → BfT pr tg d[i]! d[j]! := fun i j hi hi2 hj hj2 => by
    have k := hR (by omega) (by omega)
    have k1 : BfT pr tg d[i]! d[start]! := by
      by_cases hie : i = mid + m - start - 1
      · rw [hie]; exact k
      · exact (h2 i (mid + m - start - 1) hi (by omega) (by omega)).trans k
    by_cases hje : j = start
    · rw [hje]; exact k1
    · exact k1.trans (h1 start j (by omega) (by omega) hj2)
  refine ⟨?_, ?_, ?_, ?_, ?_, ?_, ?_⟩
  · intro i j hi hij hj
    rw [hd, hd, i1 i (by omega), i1 j hj]; exact h1 i j hi hij (by omega)
  · intro i j hi hij hj
    rw [hd, hd, i2 i hi (by omega), i2 j (by omega) hj]; exact h2 _ _ (by omega) (by omega) (by omega)
  · intro i j hi hij hj hjb
    rw [hd, hd, i1 i hij, i2 j hj hjb]; exact h3 _ _ hi (by omega) (by omega) (by omega)
  · intro i j hi hij hj
    rw [hd, hd, i3 i hi (by omega), i3 j (by omega) hj]; exact h1 _ _ (by omega) (by omega) (by omega)
  · intro i j hi hij hj
    rw [hd, hd, i4 i hi, i4 j (by omega)]; exact h2 _ _ (by omega) hij hj
  · intro i j hi hij hj hjb
    rw [hd, hd, i3 i hi hij, i4 j hj]; exact h3 _ _ (by omega) (by omega) (by omega) hjb
  · intro i j hi him hj hjb
    rw [hd, hd]
    by_cases hs : i < start
    · rw [i1 i hs]
      by_cases he : j < mid + m - start
      · rw [i3 j hj he]; exact h1 _ _ hi (by omega) (by omega)
      · rw [i4 j (by omega)]; exact hLL _ _ hi hs (by omega) hjb
    · rw [i2 i (by omega) him]
      by_cases he : j < mid + m - start
      · rw [i3 j hj he]; exact hRR _ _ (by omega) (by omega) (by omega) (by omega)
      · rw [i4 j (by omega)]; exact h2 _ _ (by omega) (by omega) hjb
/-- Behind the two halves' own merges. -/
theorem sym_end {d1 d2 d3 : Array α} {a mid b : Nat} (ham : a ≤ mid) (hmb : mid ≤ b) (hb : b ≤ d1.size) (hX : Crs pr tg d1 a mid b) (p2 : PermIn a mid d1 d2) (p3 : PermIn mid b d2 d3) (s2 : SoT pr tg d2 a mid) (s3 : SoT pr tg d3 mid b) : SoT pr tg d3 a b ∧ PermIn a b d1 d3 := by
  have hz := p2.1
  have o2 : ∀ q, mid ≤ q → d2[q]! = d1[q]! := fun q hq => p2.2.1 q (Or.inr hq)
  have o3 : ∀ q, q < mid → d3[q]! = d2[q]! := fun q hq => p3.2.1 q (Or.inl hq)
  refine ⟨SoT.join (m := mid) (fun i j hi hij hj => by rw [o3 i (by omega), o3 j hj]; exact s2 i j hi hij hj) s3 (fun i j hi him hj hjb => ?_), permIn_trans _ _ _ _ _ (permIn_mono _ _ a mid a b (Nat.le_refl _) hmb hb p2) (permIn_mono _ _ mid b a b ham (Nat.le_refl _) (by omega) p3)⟩
  rw [o3 i him]
  obtain ⟨i', q1, q2, e1⟩ := perm_of (by omega) p2 i hi him
  obtain ⟨j', q3, q4, e2⟩ := perm_of (by omega) p3 j hj hjb
  rw [e1, e2, o2 j' q3]
  exact hX i' j' q1 q2 q3 q4
/-! ### One element into a sorted part -/
theorem ins_left {d d1 : Array α} {a b i : Nat} (hi : a + 1 ≤ i) (hib : i ≤ b) (h2 : SoT pr tg d (a + 1) b) (hl : ∀ k, a + 1 ≤ k → k < i → BfT pr tg d[k]! d[a]!) (hr : ∀ k, i ≤ k → k < b → BfT pr tg d[a]! d[k]!)
    (hd : ∀ t, d1[t]! = if t < a then d[t]! else if t < i - 1 then d[t + 1]! else if t = i - 1 then d[a]! else d[t]!) : SoT pr tg d1 a b := by
  intro p q hp hpq hq
  rw [hd, hd]
  by_cases q1 : q < i - 1
  · rw [if_neg (by omega), if_pos (by omega), if_neg (by omega), if_pos q1]; exact h2 _ _ (by omega) (by omega) (by omega)
  · by_cases q2 : q = i - 1
    · rw [if_neg (by omega), if_pos (by omega), if_neg (by omega), if_neg q1, if_pos q2]; exact hl _ (by omega) (by omega)
    · by_cases p1 : p < i - 1
      · rw [if_neg (by omega), if_pos p1, if_neg (by omega), if_neg q1, if_neg q2]; exact h2 _ _ (by omega) (by omega) hq
      · by_cases p2 : p = i - 1
        · rw [if_neg (by omega), if_neg p1, if_pos p2, if_neg (by omega), if_neg q1, if_neg q2]; exact hr _ (by omega) hq
        · rw [if_neg (by omega), if_neg p1, if_neg p2, if_neg (by omega), if_neg q1, if_neg q2]; exact h2 _ _ (by omega) hpq hq
theorem ins_right {d d1 : Array α} {a m i : Nat} (hi : a ≤ i) (him : i ≤ m) (h1 : SoT pr tg d a m) (hl : ∀ k, a ≤ k → k < i → BfT pr tg d[k]! d[m]!) (hr : ∀ k, i ≤ k → k < m → BfT pr tg d[m]! d[k]!)
    (hd : ∀ t, d1[t]! = if t < i then d[t]! else if t = i then d[m]! else if t ≤ m then d[t - 1]! else d[t]!) : SoT pr tg d1 a (m + 1) := by
  intro p q hp hpq hq
  rw [hd, hd]
  by_cases q1 : q < i
  · rw [if_pos (by omega), if_pos q1]; exact h1 _ _ hp hpq (by omega)
  · by_cases q2 : q = i
    · rw [if_pos (by omega), if_neg q1, if_pos q2]; exact hl _ hp (by omega)
    · by_cases p1 : p < i
      · rw [if_pos p1, if_neg q1, if_neg q2, if_pos (by omega)]; exact h1 _ _ hp (by omega) (by omega)
      · by_cases p2 : p = i
        · rw [if_neg p1, if_pos p2, if_neg q1, if_neg q2, if_pos (by omega)]; exact hr _ (by omega) (by omega)
        · rw [if_neg p1, if_neg p2, if_pos (by omega), if_neg q1, if_neg q2, if_pos (by omega)]; exact h1 _ _ (by omega) (by omega) (by omega)
end
end Go.Proofs.Ythoblabimkfjpaa
