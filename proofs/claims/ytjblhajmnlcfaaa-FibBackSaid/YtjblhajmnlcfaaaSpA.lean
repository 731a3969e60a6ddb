/- Shortest ways, plainly: what a row of distances has to be, that there is at most one, and how edge by edge it comes about. -/
import Derived.Test.YtjblhajmnlcfaaaWgC
namespace Go.Proofs.Ytjblhajmnlcfaaa
open Go.RowKit
set_option maxHeartbeats 1600000
set_option maxRecDepth 100000
def isDn (dn : List Bool) (i : Nat) : Bool := dn.getD i false
def tov (l : List Lnk) (k : Nat) : Int := (endsS l (k : Int)).2.1
def met (l : List Lnk) (k : Nat) : Int := (l.getD (k / 2) default).m
def dAt (d : List Int) (v : Int) : Int := d.getD v.toNat (-1)
/-- A graph as Check wants it. -/
def GOk (nd : Nat) (l : List Lnk) : Prop := l.length ≤ 120 ∧ 1 ≤ nd ∧ nd ≤ 40 ∧ (chk (nd : Int) l 0).2 = 0
theorem edge_facts {nd : Nat} {l : List Lnk} (h : GOk nd l) {k : Nat} (hk : k < 2 * l.length) : ∃ (a b : Nat) (x : Lnk), l[k / 2]? = some x ∧ endsS l (k : Int) = ((a : Int), (b : Int), true) ∧ frm l k = (a : Int) ∧ tov l k = (b : Int) ∧ met l k = x.m ∧ a < nd ∧ b < nd ∧ a ≠ b ∧ 1 ≤ x.m ∧ x.m ≤ 16777216 := by
  obtain ⟨x, hx⟩ : ∃ x, l[k / 2]? = some x := ⟨l[k / 2]'(by omega), List.getElem?_eq_getElem _⟩
  have h1 := chk_all h.2.2.2 x (List.mem_of_getElem? hx)
  have h2 := endsS_some hx
  have hm : met l k = x.m := by unfold met; rw [List.getD_eq_getElem?_getD, hx]; rfl
  unfold lnkErr at h1
  split at h1
  · rename_i h3
    obtain ⟨ha, ha', hb, hb', hab⟩ := h3
    split at h1
    · rename_i h4
      obtain ⟨a, ha2⟩ := Int.eq_ofNat_of_zero_le ha
      obtain ⟨b, hb2⟩ := Int.eq_ofNat_of_zero_le hb
      unfold frm tov
      rw [h2]
      rcases Nat.mod_two_eq_zero_or_one k with hk2 | hk2
      · rw [if_pos hk2]
        exact ⟨a, b, x, hx, by rw [ha2, hb2], ha2, hb2, hm, by omega, by omega, by omega, h4.1, h4.2.1⟩
      · rw [if_neg (by omega)]
        exact ⟨b, a, x, hx, by rw [ha2, hb2], hb2, ha2, hm, by omega, by omega, by omega, h4.1, h4.2.1⟩
    · cases h1
  · cases h1
/-- What P701 asks of a row of distances from s. -/
structure DistOk (nd : Nat) (l : List Lnk) (dn : List Bool) (s : Nat) (d : List Int) : Prop where
  len : d.length = nd
  src : dAt d (s : Int) = 0
  low : ∀ v : Nat, v < nd → -1 ≤ dAt d (v : Int)
  clo : ∀ k, k < 2 * l.length → isDn dn (k / 2) = false → 0 ≤ dAt d (frm l k) → 0 ≤ dAt d (tov l k) ∧ dAt d (tov l k) ≤ dAt d (frm l k) + met l k
  via : ∀ v : Nat, v < nd → v ≠ s → 0 ≤ dAt d (v : Int) → ∃ k, k < 2 * l.length ∧ isDn dn (k / 2) = false ∧ tov l k = (v : Int) ∧ 0 ≤ dAt d (frm l k) ∧ dAt d (v : Int) = dAt d (frm l k) + met l k
theorem dist_le {nd : Nat} {l : List Lnk} {dn : List Bool} {s : Nat} {d d' : List Int} (hg : GOk nd l) (h : DistOk nd l dn s d) (h' : DistOk nd l dn s d') :
    ∀ (N : Nat) (v : Nat), v < nd → 0 ≤ dAt d (v : Int) → dAt d (v : Int) ≤ (N : Int) → 0 ≤ dAt d' (v : Int) ∧ dAt d' (v : Int) ≤ dAt d (v : Int) := by
  intro N
  induction N with
  | zero =>
    intro v hv h0 h1
    by_cases hs : v = s
    · subst hs; rw [h'.src]; omega
    · obtain ⟨k, hk, _, ht, hf, he⟩ := h.via v hv hs h0
      obtain ⟨a, b, x, _, _, hfa, _, hm, _, _, _, hm1, _⟩ := edge_facts hg hk
      omega
  | succ N ih =>
    intro v hv h0 h1
    by_cases hs : v = s
    · subst hs; rw [h'.src]; omega
    · obtain ⟨k, hk, hu, ht, hf, he⟩ := h.via v hv hs h0
      obtain ⟨a, b, x, _, _, hfa, _, hm, ha, _, _, hm1, _⟩ := edge_facts hg hk
      rw [hfa] at hf he
      obtain ⟨i1, i2⟩ := ih a ha hf (by omega)
      have := h'.clo k hk hu (by rw [hfa]; exact i1)
      rw [ht, hfa] at this
      omega
theorem dist_unique {nd : Nat} {l : List Lnk} {dn : List Bool} {s : Nat} {d d' : List Int} (hg : GOk nd l) (h : DistOk nd l dn s d) (h' : DistOk nd l dn s d') : d = d' := by
  refine List.ext_getElem (by rw [h.len, h'.len]) fun i h1 h2 => ?_
  have hi : i < nd := by rw [← h.len]; exact h1
  have e1 : dAt d (i : Int) = d[i] := by unfold dAt; rw [List.getD_eq_getElem?_getD, Int.toNat_natCast, List.getElem?_eq_getElem h1]; rfl
  have e2 : dAt d' (i : Int) = d'[i] := by unfold dAt; rw [List.getD_eq_getElem?_getD, Int.toNat_natCast, List.getElem?_eq_getElem h2]; rfl
  rw [← e1, ← e2]
  have l1 := h.low i hi
  have l2 := h'.low i hi
  by_cases c1 : 0 ≤ dAt d (i : Int)
  · have a := dist_le hg h h' (dAt d (i : Int)).toNat i hi c1 (by omega)
    have b := dist_le hg h' h (dAt d' (i : Int)).toNat i hi a.1 (by omega)
    omega
  · by_cases c2 : 0 ≤ dAt d' (i : Int)
    · have b := dist_le hg h' h (dAt d' (i : Int)).toNat i hi c2 (by omega)
      omega
    · omega
/-- The row of distances, if there is one. -/
noncomputable def distS (nd : Nat) (l : List Lnk) (dn : List Bool) (s : Nat) : List Int := open Classical in if h : ∃ d, DistOk nd l dn s d then Classical.choose h else []
theorem distS_eq {nd : Nat} {l : List Lnk} {dn : List Bool} {s : Nat} {d : List Int} (hg : GOk nd l) (h : DistOk nd l dn s d) : distS nd l dn s = d := by
  have he : ∃ d, DistOk nd l dn s d := ⟨d, h⟩
  unfold distS
  rw [dif_pos he]
  exact dist_unique hg (Classical.choose_spec he) h
/-- What From and To answer. -/
noncomputable def fromS (nd : Int) (l : List Lnk) (dn : List Bool) (s : Int) : List Int := if (checkS nd l).2 = 0 ∧ 0 ≤ s ∧ s < nd then distS nd.toNat l dn s.toNat else []
theorem gok_of {nd : Nat} {l : List Lnk} (h : (checkS (nd : Int) l).2 = 0) : GOk nd l := by
  obtain ⟨h1, h2, h3, h4⟩ := checkS_ok h
  exact ⟨h1, by omega, by omega, h4⟩

/-! ### Edge by edge -/
def lab : List Int → Nat
  | [] => 0
  | x :: r => lab r + if x < 0 then 0 else 1
def pot (x : Int) : Nat := if x < 0 then 687865856 else x.toNat
def sumP : List Int → Nat
  | [] => 0
  | x :: r => sumP r + pot x
theorem lab_le (d : List Int) : lab d ≤ d.length := by
  induction d with
  | nil => exact Nat.le_refl _
  | cons x r ih => simp only [lab, List.length_cons]; split <;> omega
theorem lab_set {d : List Int} {i : Nat} {x y : Int} (h : d[i]? = some y) (hx : 0 ≤ x) : lab (d.set i x) = lab d + if y < 0 then 1 else 0 := by
  induction d generalizing i with
  | nil => simp at h
  | cons a r ih =>
    cases i with
    | zero =>
      simp at h; subst h
      simp only [List.set_cons_zero, lab]
      rw [if_neg (show ¬x < 0 by omega)]
      split <;> omega
    | succ i =>
      simp only [List.set_cons_succ, lab]
      rw [ih (by simpa using h)]
      omega
theorem sumP_set {d : List Int} {i : Nat} {x y : Int} (h : d[i]? = some y) (hx : pot x < pot y) : sumP (d.set i x) < sumP d := by
  induction d generalizing i with
  | nil => simp at h
  | cons a r ih =>
    cases i with
    | zero => simp at h; subst h; simp only [List.set_cons_zero, sumP]; omega
    | succ i => simp only [List.set_cons_succ, sumP]; have := ih (i := i) (by simpa using h); omega
theorem lab_pos {d : List Int} {i : Nat} (h : d[i]? = some 0) : 1 ≤ lab d := by
  induction d generalizing i with
  | nil => simp at h
  | cons a r ih =>
    cases i with
    | zero => simp at h; subst h; simp [lab]
    | succ i => simp only [lab]; have := ih (i := i) (by simpa using h); omega
theorem dAt_get {d : List Int} {v : Nat} (h : v < d.length) : d[v]? = some (dAt d (v : Int)) := by
  unfold dAt
  rw [List.getD_eq_getElem?_getD, Int.toNat_natCast, List.getElem?_eq_getElem h]
  rfl
theorem dAt_set {d : List Int} {b v : Nat} {x : Int} (h : b < d.length) : dAt (d.set b x) (v : Int) = if v = b then x else dAt d (v : Int) := by
  unfold dAt
  rw [List.getD_eq_getElem?_getD, List.getD_eq_getElem?_getD, Int.toNat_natCast, List.getElem?_set]
  by_cases hv : b = v
  · subst hv; simp [h]
  · rw [if_neg hv, if_neg (fun e => hv e.symm)]
/-- What holds while edges are looked at. -/
structure PInv (nd : Nat) (l : List Lnk) (dn : List Bool) (s : Nat) (d : List Int) : Prop where
  len : d.length = nd
  src : dAt d (s : Int) = 0
  low : ∀ v : Nat, v < nd → -1 ≤ dAt d (v : Int)
  via : ∀ v : Nat, v < nd → v ≠ s → 0 ≤ dAt d (v : Int) → ∃ k, k < 2 * l.length ∧ isDn dn (k / 2) = false ∧ tov l k = (v : Int) ∧ 0 ≤ dAt d (frm l k) ∧ dAt d (frm l k) + met l k ≤ dAt d (v : Int)
  top : ∀ v : Nat, v < nd → dAt d (v : Int) + 16777216 ≤ (lab d : Int) * 16777216
def cloAt (l : List Lnk) (dn : List Bool) (d : List Int) (k : Nat) : Prop := isDn dn (k / 2) = false → 0 ≤ dAt d (frm l k) → 0 ≤ dAt d (tov l k) ∧ dAt d (tov l k) ≤ dAt d (frm l k) + met l k
theorem PInv.done {nd : Nat} {l : List Lnk} {dn : List Bool} {s : Nat} {d : List Int} (h : PInv nd l dn s d) (hc : ∀ k, k < 2 * l.length → cloAt l dn d k) : DistOk nd l dn s d := by
  refine ⟨h.len, h.src, h.low, hc, fun v hv hs h0 => ?_⟩
  obtain ⟨k, hk, hu, ht, hf, he⟩ := h.via v hv hs h0
  have := (hc k hk hu hf).2
  rw [ht] at this
  exact ⟨k, hk, hu, ht, hf, by omega⟩
theorem PInv.start {nd : Nat} {l : List Lnk} {dn : List Bool} {s : Nat} (hs : s < nd) : PInv nd l dn s ((List.replicate nd (-1 : Int)).set s 0) := by
  have hr : ∀ v : Nat, dAt (List.replicate nd (-1 : Int)) (v : Int) = -1 := by
    intro v
    unfold dAt
    rw [List.getD_eq_getElem?_getD, Int.toNat_natCast]
    rcases Nat.lt_or_ge v nd with h | h
    · rw [List.getElem?_replicate, if_pos h]; rfl
    · rw [List.getElem?_eq_none (by simpa using h)]; rfl
  have hd : ∀ v : Nat, dAt ((List.replicate nd (-1 : Int)).set s 0) (v : Int) = if v = s then 0 else -1 := by
    intro v
    rw [dAt_set (by simpa using hs), hr]
  have hl : lab ((List.replicate nd (-1 : Int)).set s 0) ≥ 1 := by
    refine lab_pos (i := s) ?_
    rw [List.getElem?_set, if_pos rfl, if_pos (by simpa using hs)]
  refine ⟨by simp, by rw [hd, if_pos rfl], fun v _ => by rw [hd]; split <;> omega, fun v _ hv h0 => ?_, fun v _ => ?_⟩
  · rw [hd, if_neg hv] at h0; omega
  · rw [hd]; split <;> omega
theorem PInv.bound {nd : Nat} {l : List Lnk} {dn : List Bool} {s : Nat} {d : List Int} (h : PInv nd l dn s d) (hnd : nd ≤ 40) {v : Nat} (hv : v < nd) : -1 ≤ dAt d (v : Int) ∧ dAt d (v : Int) ≤ 654311424 := by
  have h1 := h.low v hv
  have h2 := h.top v hv
  have h3 := lab_le d
  rw [h.len] at h3
  omega
/-- An edge that makes a node nearer. -/
theorem PInv.relax {nd : Nat} {l : List Lnk} {dn : List Bool} {s : Nat} {d : List Int} (hg : GOk nd l) (h : PInv nd l dn s d) {k a b : Nat} {m : Int} (hk : k < 2 * l.length) (hu : isDn dn (k / 2) = false) (hf : frm l k = (a : Int)) (ht : tov l k = (b : Int)) (hm : met l k = m)
    (ha : a < nd) (hb : b < nd) (hab : a ≠ b) (hm1 : 1 ≤ m) (hm2 : m ≤ 16777216) (h0 : 0 ≤ dAt d (a : Int)) (hn : dAt d (b : Int) < 0 ∨ dAt d (a : Int) + m < dAt d (b : Int)) :
    PInv nd l dn s (d.set b (dAt d (a : Int) + m)) ∧ sumP (d.set b (dAt d (a : Int) + m)) < sumP d := by
  have hbl : b < d.length := by rw [h.len]; exact hb
  have hs : b ≠ s := by rintro rfl; rw [h.src] at hn; omega
  have hv : ∀ v : Nat, dAt (d.set b (dAt d (a : Int) + m)) (v : Int) = if v = b then dAt d (a : Int) + m else dAt d (v : Int) := fun v => dAt_set hbl
  have htop := h.top a ha
  have hlow := h.low b hb
  have hlab := lab_set (x := dAt d (a : Int) + m) (dAt_get hbl) (by omega)
  have hle : ∀ v : Nat, v < nd → 0 ≤ dAt d (v : Int) → 0 ≤ dAt (d.set b (dAt d (a : Int) + m)) (v : Int) ∧ dAt (d.set b (dAt d (a : Int) + m)) (v : Int) ≤ dAt d (v : Int) := by
    intro v hv1 hv2
    rw [hv]
    split
    · subst v; omega
    · omega
  refine ⟨⟨by rw [List.length_set]; exact h.len, by rw [hv, if_neg (fun e => hs e.symm)]; exact h.src, fun v hv1 => by rw [hv]; split; omega; exact h.low v hv1, fun v hv1 hvs hv0 => ?_, fun v hv1 => ?_⟩, ?_⟩
  · by_cases hvb : v = b
    · subst hvb
      refine ⟨k, hk, hu, ht, ?_, ?_⟩
      · rw [hf, hv, if_neg hab]; exact h0
      · rw [hf, hv, if_neg hab, hv, if_pos rfl, hm]; omega
    · rw [hv, if_neg hvb] at hv0 ⊢
      obtain ⟨k', hk', hu', ht', hf', he'⟩ := h.via v hv1 hvs hv0
      obtain ⟨a', _, _, _, _, hfa', _, _, ha', _⟩ := edge_facts hg hk'
      rw [hfa'] at hf' he'
      have := hle a' ha' hf'
      refine ⟨k', hk', hu', ht', ?_, ?_⟩
      · rw [hfa']; exact this.1
      · rw [hfa']; omega
  · rw [hlab, hv]
    have := h.top v hv1
    by_cases hvb : v = b
    · subst hvb
      rw [if_pos rfl]
      split <;> omega
    · rw [if_neg hvb]
      split <;> omega
  · refine sumP_set (dAt_get hbl) ?_
    have hb1 := (h.bound hg.2.2.1 ha).2
    unfold pot
    rw [if_neg (by omega)]
    split <;> omega
theorem cloAt_no {l : List Lnk} {dn : List Bool} {d : List Int} {k a b : Nat} {m : Int} (hf : frm l k = (a : Int)) (ht : tov l k = (b : Int)) (hm : met l k = m) (h : dAt d (a : Int) < 0 ∨ isDn dn (k / 2) = true ∨ (0 ≤ dAt d (b : Int) ∧ dAt d (b : Int) ≤ dAt d (a : Int) + m)) : cloAt l dn d k := by
  intro hu h0
  rw [hf] at h0
  rw [ht, hf, hm]
  rcases h with h | h | h
  · omega
  · rw [hu] at h; cases h
  · exact h
end Go.Proofs.Ytjblhajmnlcfaaa
