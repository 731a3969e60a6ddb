/- Steps listed, the farthest node first: what holds, plainly. -/
import Derived.Test.YtcjilpgblbnebaaDkB
import Derived.Test.YtcjilpgblbnebaaDgH
namespace Go.Proofs.Ytcjilpgblbnebaa
open Go.RowKit
set_option maxHeartbeats 3200000
set_option maxRecDepth 100000
structure Stp where
  e : Int
  a : Int
  b : Int
def blk (N : Nat) (l : List Lnk) (dn : List Bool) (D : List Int) (v : Nat) : List Stp := (nextS (N : Int) l dn D (v : Int)).map fun e => ⟨e, (v : Int), tov l e.toNat⟩
def stepsL (N : Nat) (l : List Lnk) (dn : List Bool) (D : List Int) (vs : List Nat) : List Stp := vs.flatMap (blk N l dn D)
/-- vs: the nodes that have been left, in order; H: those that wait; R: the edges that are still to be looked at. -/
structure SInv (N : Nat) (l : List Lnk) (dn : List Bool) (D : List Int) (On : Nat → Prop) (S : Nat) (vs : List Nat) (H : List (Int × Int)) (R : List Int) : Prop where
  nod : vs.Nodup
  on : ∀ v ∈ vs, On v
  wait : ∀ p ∈ H, ∃ b : Nat, On b ∧ p = (-(dAt D (b : Int)), (b : Int)) ∧ ∀ v ∈ vs, dAt D (b : Int) ≤ dAt D (v : Int)
  ord : vs.Pairwise (fun u v : Nat => dAt D (v : Int) ≤ dAt D (u : Int))
  clo : ∀ u ∈ vs, ∀ e ∈ nextS (N : Int) l dn D (u : Int), e ∉ R → ∃ b : Nat, tov l e.toNat = (b : Int) ∧ (b ∈ vs ∨ (-(dAt D (b : Int)), (b : Int)) ∈ H)
  src : S ∈ vs ∨ (-(dAt D (S : Int)), (S : Int)) ∈ H
section
variable {N : Nat} {l : List Lnk} {dn : List Bool} {D : List Int} {On : Nat → Prop} {S : Nat} {vs : List Nat} {H H' : List (Int × Int)} {R : List Int}
theorem SInv.start (h : On S) : SInv N l dn D On S [] [(-(dAt D (S : Int)), (S : Int))] [] :=
  ⟨List.nodup_nil, fun _ h => by simp at h, fun p hp => by simp only [List.mem_singleton] at hp; exact ⟨S, h, hp, fun _ h => by simp at h⟩, List.Pairwise.nil, fun _ h => by simp at h, .inr (by simp)⟩
theorem SInv.perm (h : SInv N l dn D On S vs H R) (hp : H'.Perm H) : SInv N l dn D On S vs H' R :=
  ⟨h.nod, h.on, fun p hm => h.wait p (hp.mem_iff.1 hm), h.ord, fun u hu e he hr => by
    obtain ⟨b, h1, h2⟩ := h.clo u hu e he hr
    exact ⟨b, h1, h2.imp id (fun hm => hp.mem_iff.2 hm)⟩, h.src.imp id (fun hm => hp.mem_iff.2 hm)⟩
theorem SInv.skip {x : Int} {b : Nat} (h : SInv N l dn D On S vs ((x, (b : Int)) :: H) []) (hb : b ∈ vs) : SInv N l dn D On S vs H [] := by
  have key : ∀ {c : Nat}, (c ∈ vs ∨ (-(dAt D (c : Int)), (c : Int)) ∈ (x, (b : Int)) :: H) → c ∈ vs ∨ (-(dAt D (c : Int)), (c : Int)) ∈ H := by
    intro c hc
    rcases hc with hc | hc
    · exact .inl hc
    · rcases List.mem_cons.1 hc with h2 | h2
      · simp only [Prod.mk.injEq] at h2
        obtain rfl : c = b := by omega
        exact .inl hb
      · exact .inr h2
  refine ⟨h.nod, h.on, fun p hp => h.wait p (by simp [hp]), h.ord, fun u hu e he hr => ?_, key h.src⟩
  obtain ⟨c, h1, h2⟩ := h.clo u hu e he hr
  exact ⟨c, h1, key h2⟩
theorem SInv.take {x : Int} {b : Nat} (h : SInv N l dn D On S vs ((x, (b : Int)) :: H) []) (hb : b ∉ vs) (hm : ∀ q ∈ H, x ≤ q.1) :
    SInv N l dn D On S (vs ++ [b]) H (nextS (N : Int) l dn D (b : Int)) ∧ ∀ u ∈ vs ++ [b], dAt D (b : Int) ≤ dAt D (u : Int) := by
  obtain ⟨c, hc, he, hle⟩ := h.wait (x, (b : Int)) (by simp)
  simp only [Prod.mk.injEq] at he
  obtain ⟨hx, he⟩ := he
  obtain rfl : b = c := by omega
  have key : ∀ {c : Nat}, (c ∈ vs ∨ (-(dAt D (c : Int)), (c : Int)) ∈ (x, (b : Int)) :: H) → c ∈ vs ++ [b] ∨ (-(dAt D (c : Int)), (c : Int)) ∈ H := by
    intro c hc
    rcases hc with hc | hc
    · exact .inl (by simp [hc])
    · rcases List.mem_cons.1 hc with h2 | h2
      · simp only [Prod.mk.injEq] at h2
        obtain rfl : c = b := by omega
        exact .inl (by simp)
      · exact .inr h2
  have hmin : ∀ u ∈ vs ++ [b], dAt D (b : Int) ≤ dAt D (u : Int) := by
    intro u hu
    rcases List.mem_append.1 hu with hu | hu
    · exact hle u hu
    · simp only [List.mem_singleton] at hu; subst hu; exact Int.le_refl _
  refine ⟨⟨?_, fun v hv => ?_, fun p hp => ?_, ?_, fun u hu e he hr => ?_, key h.src⟩, hmin⟩
  · rw [List.nodup_append]
    exact ⟨h.nod, by simp, fun a ha c hc => by simp only [List.mem_singleton] at hc; subst hc; exact fun e => hb (by rw [← e]; exact ha)⟩
  · rcases List.mem_append.1 hv with hv | hv
    · exact h.on v hv
    · simp only [List.mem_singleton] at hv; subst hv; exact hc
  · obtain ⟨c, h1, h2, h3⟩ := h.wait p (by simp [hp])
    refine ⟨c, h1, h2, fun v hv => ?_⟩
    rcases List.mem_append.1 hv with hv | hv
    · exact h3 v hv
    · simp only [List.mem_singleton] at hv; subst hv
      have := hm p hp
      rw [h2] at this
      simp only at this
      omega
  · rw [List.pairwise_append]
    exact ⟨h.ord, by simp, fun a ha c hc => by simp only [List.mem_singleton] at hc; subst hc; exact hle a ha⟩
  · rcases List.mem_append.1 hu with hu | hu
    · obtain ⟨c, h1, h2⟩ := h.clo u hu e he (by simp)
      exact ⟨c, h1, key h2⟩
    · simp only [List.mem_singleton] at hu; rw [hu] at he; exact absurd he hr
theorem SInv.edge {e : Int} {b c : Nat} (h : SInv N l dn D On S vs H (e :: R)) (ht : tov l e.toNat = (c : Int)) (hc : On c) (hmin : ∀ u ∈ vs, dAt D (b : Int) ≤ dAt D (u : Int)) (hcb : dAt D (c : Int) ≤ dAt D (b : Int)) :
    SInv N l dn D On S vs ((-(dAt D (c : Int)), (c : Int)) :: H) R := by
  refine ⟨h.nod, h.on, fun p hp => ?_, h.ord, fun u hu e' he hr => ?_, h.src.imp id (fun h => by simp [h])⟩
  · rcases List.mem_cons.1 hp with rfl | hp
    · exact ⟨c, hc, rfl, fun v hv => Int.le_trans hcb (hmin v hv)⟩
    · exact h.wait p hp
  · by_cases h1 : e' = e
    · subst h1
      exact ⟨c, ht, .inr (by simp)⟩
    · obtain ⟨b', h2, h3⟩ := h.clo u hu e' he (by simp only [List.mem_cons, not_or]; exact ⟨h1, hr⟩)
      exact ⟨b', h2, h3.imp id (fun h => by simp [h])⟩
end
/-- A node on some shortest way from S to T. -/
def OnW (N : Nat) (l : List Lnk) (dn : List Bool) (S T : Nat) (v : Nat) : Prop := v < N ∧ 0 ≤ dAt (distS N l dn S) (v : Int) ∧ 0 ≤ dAt (distS N l dn T) (v : Int) ∧ dAt (distS N l dn S) (v : Int) + dAt (distS N l dn T) (v : Int) = dAt (distS N l dn S) (T : Int)
theorem onW_first {N : Nat} {l : List Lnk} {dn : List Bool} {S T : Nat} (hok : GOk N l) (hS : S < N) (hT : T < N) (h : 0 ≤ dAt (distS N l dn T) (S : Int)) : OnW N l dn S T S := by
  have h0 := (dist_ok (dn := dn) hok hS).src
  refine ⟨hS, by omega, h, ?_⟩
  rw [h0, dist_sym hok hS hT]
  omega
/-- An edge that goes on, from a node on a way: it is used, and leads to a node on it. -/
theorem next_us {N : Nat} {l : List Lnk} {dn : List Bool} {S T v : Nat} (hok : GOk N l) (hS : S < N) (hT : T < N) (h : OnW N l dn S T v) {e : Int} (he : e ∈ nextS (N : Int) l dn (distS N l dn T) (v : Int)) :
    ∃ k b : Nat, e = (k : Int) ∧ k < 2 * l.length ∧ Us N l dn S T k ∧ frm l k = (v : Int) ∧ tov l k = (b : Int) ∧ OnW N l dn S T b ∧ dAt (distS N l dn T) (b : Int) < dAt (distS N l dn T) (v : Int) := by
  obtain ⟨k, b, rfl, hk, hu, hends, hto, hb, h0, h1, h2⟩ := nextS_mem hok he
  obtain ⟨hv, e1, e2, e3⟩ := h
  have hf : frm l k = (v : Int) := by unfold frm; rw [hends]
  have hus : Us N l dn S T k := ⟨hk, hu, by rw [hf]; exact e1, by rw [hto]; exact h0, by rw [hf, hto]; omega⟩
  obtain ⟨_, _, _, q1, q2, q3⟩ := us_ends hok hS hT hus hf hto hv hb
  exact ⟨k, b, rfl, hk, hus, hf, hto, ⟨hb, q1, q2, q3⟩, h1⟩
/-- And the other way round. -/
theorem us_next {N : Nat} {l : List Lnk} {dn : List Bool} {S T k v : Nat} (hok : GOk N l) (hT : T < N) (hS : S < N) (hus : Us N l dn S T k) (hf : frm l k = (v : Int)) (hv : v < N) : (k : Int) ∈ nextS (N : Int) l dn (distS N l dn T) (v : Int) := by
  obtain ⟨a, b, _, _, _, hfa, hto, hm, ha, hb, _, hm1, _⟩ := edge_facts hok hus.1
  obtain rfl : a = v := by rw [hfa] at hf; omega
  obtain ⟨e1, e2, e3, q1, q2, q3⟩ := us_ends hok hS hT hus hfa hto ha hb
  obtain ⟨hk, hu, h1, h2, h3⟩ := hus
  rw [hfa] at h3
  rw [hto] at h3
  unfold nextS
  have hd := dist_ok (dn := dn) hok hT
  rw [if_pos ⟨gok_check hok, by rw [hd.len], by omega, by omega, by omega⟩]
  refine List.mem_filter.2 ⟨mem_outS.2 ⟨k, hk, rfl, ?_⟩, ?_⟩
  · show frm l k = _
    rw [hfa]
  · unfold onS
    simp only [Int.toNat_natCast, Bool.and_eq_true, decide_eq_true_eq, beq_iff_eq, Bool.not_eq_true']
    rw [hto]
    exact ⟨⟨hu, q2⟩, by omega⟩
/-- All nodes listed: what the list is. -/
structure SFin (N : Nat) (l : List Lnk) (dn : List Bool) (S T : Nat) (vs : List Nat) : Prop where
  nod : vs.Nodup
  all : ∀ v, v ∈ vs ↔ OnW N l dn S T v
  ord : vs.Pairwise (fun u v : Nat => dAt (distS N l dn T) (v : Int) ≤ dAt (distS N l dn T) (u : Int))
theorem SInv.done {N : Nat} {l : List Lnk} {dn : List Bool} {S T : Nat} {vs : List Nat} (hok : GOk N l) (hS : S < N) (hT : T < N) (h : SInv N l dn (distS N l dn T) (OnW N l dn S T) S vs [] []) : SFin N l dn S T vs := by
  have hsrc : S ∈ vs := by
    rcases h.src with h1 | h1
    · exact h1
    · cases h1
  have hcl : ∀ u ∈ vs, ∀ e ∈ nextS (N : Int) l dn (distS N l dn T) (u : Int), ∃ b : Nat, tov l e.toNat = (b : Int) ∧ b ∈ vs := by
    intro u hu e he
    obtain ⟨b, h1, h2⟩ := h.clo u hu e he (by simp)
    rcases h2 with h2 | h2
    · exact ⟨b, h1, h2⟩
    · cases h2
  have hall : ∀ (f v : Nat), (dAt (distS N l dn S) (v : Int)).toNat ≤ f → OnW N l dn S T v → v ∈ vs := by
    intro f
    induction f with
    | zero =>
      intro v hf hv
      by_cases hvs : v = S
      · rw [hvs]; exact hsrc
      · obtain ⟨k, hus, ht⟩ := us_in hok hS hv.1 hvs hv.2.1 hv.2.2.1 hv.2.2.2
        obtain ⟨a, b, _, _, _, hfa, hto, hm, ha, hb, _, hm1, _⟩ := edge_facts hok hus.1
        obtain rfl : b = v := by rw [hto] at ht; omega
        obtain ⟨e1, e2, e3, q1, q2, q3⟩ := us_ends hok hS hT hus hfa hto ha hb
        obtain ⟨hk, hu, h1, h2, h3⟩ := hus
        rw [hfa, hto, hm] at h3
        omega
    | succ f ih =>
      intro v hf hv
      by_cases hvs : v = S
      · rw [hvs]; exact hsrc
      · obtain ⟨k, hus, ht⟩ := us_in hok hS hv.1 hvs hv.2.1 hv.2.2.1 hv.2.2.2
        obtain ⟨a, b, _, _, _, hfa, hto, hm, ha, hb, _, hm1, _⟩ := edge_facts hok hus.1
        obtain rfl : b = v := by rw [hto] at ht; omega
        obtain ⟨e1, e2, e3, q1, q2, q3⟩ := us_ends hok hS hT hus hfa hto ha hb
        have hn := us_next hok hT hS hus hfa ha
        obtain ⟨hk, hu, h1, h2, h3⟩ := hus
        rw [hfa, hto, hm] at h3
        have := ih a (by omega) ⟨ha, e1, e2, e3⟩
        obtain ⟨b', hb1, hb2⟩ := hcl a this _ hn
        rw [Int.toNat_natCast, hto] at hb1
        obtain rfl : b = b' := by omega
        exact hb2
  exact ⟨h.nod, fun v => ⟨h.on v, hall _ v (Nat.le_refl _)⟩, h.ord⟩
end Go.Proofs.Ytcjilpgblbnebaa
