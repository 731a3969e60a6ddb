/- Nodes taken one by one, the nearest first: what holds, plainly. -/
import Derived.Test.YtcjilpgblbnebaaSpA
namespace Go.Proofs.Ytcjilpgblbnebaa
open Go.RowKit
set_option maxHeartbeats 1600000
set_option maxRecDepth 100000
/-- d: what is settled; S: what waits; R: the edges that are still to be looked at. -/
structure DInv (nd : Nat) (l : List Lnk) (dn : List Bool) (s : Nat) (d : List Int) (S : List (Int × Int)) (R : List Int) : Prop where
  len : d.length = nd
  low : ∀ v : Nat, v < nd → -1 ≤ dAt d (v : Int)
  src : 0 ≤ dAt d (s : Int) → dAt d (s : Int) = 0
  via : ∀ v : Nat, v < nd → v ≠ s → 0 ≤ dAt d (v : Int) → ∃ k, k < 2 * l.length ∧ isDn dn (k / 2) = false ∧ tov l k = (v : Int) ∧ 0 ≤ dAt d (frm l k) ∧ dAt d (v : Int) = dAt d (frm l k) + met l k
  fst : dAt d (s : Int) < 0 → (0, (s : Int)) ∈ S ∧ ∀ v : Nat, v < nd → dAt d (v : Int) < 0
  wait : ∀ p ∈ S, ∃ b : Nat, b < nd ∧ p.2 = (b : Int) ∧ 0 ≤ p.1 ∧ p.1 ≤ (lab d : Int) * 16777216 ∧ (∀ v : Nat, v < nd → dAt d (v : Int) ≤ p.1) ∧
    (p = (0, (s : Int)) ∨ ∃ k, k < 2 * l.length ∧ isDn dn (k / 2) = false ∧ tov l k = (b : Int) ∧ 0 ≤ dAt d (frm l k) ∧ p.1 = dAt d (frm l k) + met l k)
  top : ∀ v : Nat, v < nd → 0 ≤ dAt d (v : Int) → dAt d (v : Int) + 16777216 ≤ (lab d : Int) * 16777216
  clo : ∀ k, k < 2 * l.length → isDn dn (k / 2) = false → 0 ≤ dAt d (frm l k) → (k : Int) ∉ R → (0 ≤ dAt d (tov l k) ∧ dAt d (tov l k) ≤ dAt d (frm l k) + met l k) ∨ (dAt d (frm l k) + met l k, tov l k) ∈ S
theorem dAt_rep (nd v : Nat) : dAt (List.replicate nd (-1 : Int)) (v : Int) = -1 := by
  unfold dAt
  rw [List.getD_eq_getElem?_getD, Int.toNat_natCast]
  rcases Nat.lt_or_ge v nd with h | h
  · rw [List.getElem?_replicate, if_pos h]; rfl
  · rw [List.getElem?_eq_none (by simpa using h)]; rfl
theorem lab_rep (nd : Nat) : lab (List.replicate nd (-1 : Int)) = 0 := by
  induction nd with
  | zero => rfl
  | succ n ih => rw [List.replicate_succ]; simp only [lab]; rw [ih]; rfl
theorem DInv.start {nd : Nat} {l : List Lnk} {dn : List Bool} {s : Nat} (hg : GOk nd l) (hs : s < nd) : DInv nd l dn s (List.replicate nd (-1)) [(0, (s : Int))] [] := by
  refine ⟨by simp, fun v _ => by rw [dAt_rep]; omega, fun h => by rw [dAt_rep] at h; omega, fun v _ _ h => by rw [dAt_rep] at h; omega, fun _ => ⟨by simp, fun v _ => by rw [dAt_rep]; omega⟩, fun p hp => ?_, fun v _ h => by rw [dAt_rep] at h; omega, fun k hk _ h => ?_⟩
  · simp only [List.mem_singleton] at hp
    subst hp
    exact ⟨s, hs, rfl, by simp, by rw [lab_rep]; simp, fun v _ => by rw [dAt_rep]; simp, .inl rfl⟩
  · obtain ⟨a, b, x, _, _, hf, _⟩ := edge_facts hg hk
    rw [hf, dAt_rep] at h; omega
theorem DInv.perm {nd : Nat} {l : List Lnk} {dn : List Bool} {s : Nat} {d : List Int} {S S' : List (Int × Int)} {R : List Int} (h : DInv nd l dn s d S R) (hp : S'.Perm S) : DInv nd l dn s d S' R :=
  ⟨h.len, h.low, h.src, h.via, fun h0 => ⟨hp.mem_iff.2 (h.fst h0).1, (h.fst h0).2⟩, fun p hm => h.wait p (hp.mem_iff.1 hm), h.top, fun k hk hu h0 hr => (h.clo k hk hu h0 hr).imp id (fun hm => hp.mem_iff.2 hm)⟩
theorem DInv.done {nd : Nat} {l : List Lnk} {dn : List Bool} {s : Nat} {d : List Int} (h : DInv nd l dn s d [] []) : DistOk nd l dn s d := by
  refine ⟨h.len, h.src ?_, h.low, fun k hk hu h0 => ?_, h.via⟩
  · rcases Int.lt_or_le (dAt d (s : Int)) 0 with h0 | h0
    · have := (h.fst h0).1; simp at this
    · exact h0
  · rcases h.clo k hk hu h0 (by simp) with h1 | h1
    · exact h1
    · simp at h1
/-- A node that has been settled comes up again. -/
theorem DInv.skip {nd : Nat} {l : List Lnk} {dn : List Bool} {s : Nat} {d : List Int} {S : List (Int × Int)} {x : Int} {b : Nat} (h : DInv nd l dn s d ((x, (b : Int)) :: S) []) (h0 : 0 ≤ dAt d (b : Int)) (hb : b < nd) : DInv nd l dn s d S [] := by
  have hw := h.wait (x, (b : Int)) (by simp)
  obtain ⟨_, _, _, _, _, hx, _⟩ := hw
  have hxb := hx b hb
  simp only at hxb
  refine ⟨h.len, h.low, h.src, h.via, fun hs => ?_, fun p hp => h.wait p (by simp [hp]), h.top, fun k hk hu hf hr => ?_⟩
  · have := (h.fst hs).2 b hb; omega
  · rcases h.clo k hk hu hf hr with h1 | h1
    · exact .inl h1
    · rcases List.mem_cons.1 h1 with h2 | h2
      · simp only [Prod.mk.injEq] at h2
        obtain ⟨h3, h4⟩ := h2
        rw [h4]
        exact .inl ⟨h0, by omega⟩
      · exact .inr h2
/-- A node is settled. -/
theorem DInv.take {nd : Nat} {l : List Lnk} {dn : List Bool} {s : Nat} {d : List Int} {S : List (Int × Int)} {x : Int} {b : Nat} (hg : GOk nd l) (h : DInv nd l dn s d ((x, (b : Int)) :: S) []) (h0 : dAt d (b : Int) < 0) (hb : b < nd) (hm : ∀ q ∈ S, x ≤ q.1) :
    DInv nd l dn s (d.set b x) S (outS l (b : Int) (2 * l.length)) ∧ 0 ≤ x ∧ x ≤ 671088640 ∧ lab (d.set b x) = lab d + 1 ∧ ∀ v : Nat, v < nd → dAt (d.set b x) (v : Int) ≤ x := by
  obtain ⟨b', _, hbb, hx0, hx1, hx2, hx3⟩ := h.wait (x, (b : Int)) (by simp)
  simp only at hbb hx0 hx1 hx2 hx3
  obtain rfl : b' = b := by omega
  have hbl : b' < d.length := by rw [h.len]; exact hb
  have hv : ∀ v : Nat, dAt (d.set b' x) (v : Int) = if v = b' then x else dAt d (v : Int) := fun v => dAt_set hbl
  have hlab : lab (d.set b' x) = lab d + 1 := by
    rw [lab_set (dAt_get hbl) hx0, if_pos h0]
  have hll := lab_le (d.set b' x)
  rw [List.length_set, h.len] at hll
  have hnd := hg.2.2.1
  -- an edge that leads here from a settled node
  have hsettled : ∀ {a : Nat}, a < nd → 0 ≤ dAt d (a : Int) → 0 ≤ dAt d (s : Int) := by
    intro a ha h1
    rcases Int.lt_or_le (dAt d (s : Int)) 0 with h2 | h2
    · have := (h.fst h2).2 a ha; omega
    · exact h2
  have hkeep : ∀ {a : Nat}, 0 ≤ dAt d (a : Int) → dAt (d.set b' x) (a : Int) = dAt d (a : Int) := by
    intro a h1
    rw [hv, if_neg (by rintro rfl; omega)]
  refine ⟨⟨by rw [List.length_set]; exact h.len, fun v hvn => ?_, fun hs => ?_, fun v hvn hvs hv0 => ?_, fun hs => ?_, fun p hp => ?_, fun v hvn hv0 => ?_, fun k hk hu hf hr => ?_⟩, hx0, by omega, hlab, fun v hvn => ?_⟩
  · rw [hv]; split; omega; exact h.low v hvn
  · rw [hv] at hs ⊢
    split
    · rename_i hsb
      subst hsb
      rcases hx3 with hx3 | ⟨k, hk, hu, ht, hf, he⟩
      · simp only [Prod.mk.injEq] at hx3; exact hx3.1
      · obtain ⟨a, _, _, _, _, hfa, _, _, ha, _⟩ := edge_facts hg hk
        rw [hfa] at hf
        have := hsettled ha hf; omega
    · rename_i hsb
      rw [if_neg hsb] at hs
      exact h.src hs
  · rw [hv] at hv0
    by_cases hvb : v = b'
    · subst hvb
      rw [hv, if_pos rfl]
      rcases hx3 with hx3 | ⟨k, hk, hu, ht, hf, he⟩
      · simp only [Prod.mk.injEq] at hx3; omega
      · obtain ⟨a, _, _, _, _, hfa, _, _, ha, _⟩ := edge_facts hg hk
        rw [hfa] at hf he
        refine ⟨k, hk, hu, ht, ?_, ?_⟩
        · rw [hfa, hkeep hf]; exact hf
        · rw [hfa, hkeep hf]; exact he
    · rw [if_neg hvb] at hv0
      rw [hv, if_neg hvb]
      obtain ⟨k, hk, hu, ht, hf, he⟩ := h.via v hvn hvs hv0
      obtain ⟨a, _, _, _, _, hfa, _, _, ha, _⟩ := edge_facts hg hk
      rw [hfa] at hf he
      refine ⟨k, hk, hu, ht, ?_, ?_⟩
      · rw [hfa, hkeep hf]; exact hf
      · rw [hfa, hkeep hf]; exact he
  · exfalso
    rw [hv] at hs
    by_cases hsb : s = b'
    · rw [if_pos hsb] at hs; omega
    · rw [if_neg hsb] at hs
      rcases hx3 with hx3 | ⟨k, hk, hu, ht, hf, he⟩
      · simp only [Prod.mk.injEq] at hx3; omega
      · obtain ⟨a, _, _, _, _, hfa, _, _, ha, _⟩ := edge_facts hg hk
        rw [hfa] at hf
        have := hsettled ha hf; omega
  · obtain ⟨c, hc, hpc, hp0, hp1, hp2, hp3⟩ := h.wait p (by simp [hp])
    have hxp := hm p hp
    refine ⟨c, hc, hpc, hp0, by rw [hlab]; omega, fun v hvn => ?_, ?_⟩
    · rw [hv]; split; exact hxp; exact hp2 v hvn
    · rcases hp3 with hp3 | ⟨k, hk, hu, ht, hf, he⟩
      · exact .inl hp3
      · obtain ⟨a, _, _, _, _, hfa, _, _, ha, _⟩ := edge_facts hg hk
        rw [hfa] at hf he
        refine .inr ⟨k, hk, hu, ht, ?_, ?_⟩
        · rw [hfa, hkeep hf]; exact hf
        · rw [hfa, hkeep hf]; exact he
  · rw [hv] at hv0 ⊢
    rw [hlab]
    split
    · omega
    · rename_i hvb
      rw [if_neg hvb] at hv0
      have := h.top v hvn hv0
      omega
  · obtain ⟨a, c, _, _, hends, hfa, hto, hme, ha, hc, _, hm1, _⟩ := edge_facts hg hk
    rw [hfa] at hf ⊢
    rw [hto]
    have hne : a ≠ b' := by
      rintro rfl
      exact hr (mem_outS.2 ⟨k, hk, rfl, by rw [hends]⟩)
    rw [hv a, if_neg hne] at hf ⊢
    have hq := h.clo k hk hu (by rw [hfa]; exact hf) (by simp)
    rw [hfa, hto] at hq
    rcases hq with ⟨h1, h2⟩ | h1
    · rw [hkeep h1]; exact .inl ⟨h1, h2⟩
    · rcases List.mem_cons.1 h1 with h2 | h2
      · simp only [Prod.mk.injEq] at h2
        obtain ⟨h3, h4⟩ := h2
        obtain rfl : c = b' := by omega
        rw [hv, if_pos rfl]
        exact .inl ⟨hx0, by omega⟩
      · exact .inr h2
  · rw [hv]; split; omega; exact hx2 v hvn
/-- An edge out of the node that has just been settled: its end waits from now on. -/
theorem DInv.edge {nd : Nat} {l : List Lnk} {dn : List Bool} {s : Nat} {d : List Int} {S : List (Int × Int)} {R : List Int} {k a b : Nat} {m x : Int} (h : DInv nd l dn s d S ((k : Int) :: R)) (hk : k < 2 * l.length) (hu : isDn dn (k / 2) = false)
    (hf : frm l k = (a : Int)) (ht : tov l k = (b : Int)) (hm : met l k = m) (ha : a < nd) (hb : b < nd) (hm1 : 1 ≤ m) (hm2 : m ≤ 16777216) (hx : dAt d (a : Int) = x) (h0 : 0 ≤ x) (hle : ∀ v : Nat, v < nd → dAt d (v : Int) ≤ x) : DInv nd l dn s d ((x + m, (b : Int)) :: S) R := by
  refine ⟨h.len, h.low, h.src, h.via, fun hs => ⟨by simp [(h.fst hs).1], (h.fst hs).2⟩, fun p hp => ?_, h.top, fun j hj hju hj0 hr => ?_⟩
  · rcases List.mem_cons.1 hp with rfl | hp
    · have := h.top a ha (by omega)
      exact ⟨b, hb, rfl, by simp only; omega, by simp only; omega, fun v hv => by have := hle v hv; simp only; omega, .inr ⟨k, hk, hu, ht, by rw [hf]; omega, by rw [hf, hx, hm]⟩⟩
    · exact h.wait p hp
  · by_cases hjk : j = k
    · subst hjk
      rw [hf, ht, hx, hm]
      exact .inr (by simp)
    · rcases h.clo j hj hju hj0 (by simp only [List.mem_cons, not_or]; exact ⟨by omega, hr⟩) with h1 | h1
      · exact .inl h1
      · exact .inr (by simp [h1])
theorem DInv.shut {nd : Nat} {l : List Lnk} {dn : List Bool} {s : Nat} {d : List Int} {S : List (Int × Int)} {R : List Int} {k : Nat} (h : DInv nd l dn s d S ((k : Int) :: R)) (hu : isDn dn (k / 2) = true) : DInv nd l dn s d S R := by
  refine ⟨h.len, h.low, h.src, h.via, h.fst, h.wait, h.top, fun j hj hju hj0 hr => ?_⟩
  by_cases hjk : j = k
  · subst hjk; rw [hu] at hju; cases hju
  · exact h.clo j hj hju hj0 (by simp only [List.mem_cons, not_or]; exact ⟨by omega, hr⟩)
end Go.Proofs.Ytcjilpgblbnebaa
