/- Merged: CqA CqB CqY CtA. -/
import Derived.Test.YtkemcgbedapkcaaG05
import Derived.Test.YtkemcgbedapkcaaG08
import Derived.Test.YtkemcgbedapkcaaG09
import Derived.Test.YtkemcgbedapkcaaG07
/- Where segments lead, plainly. -/
namespace Go.Proofs.Ytkemcgbedapkcaa
open Go.RowKit
set_option maxHeartbeats 6400000
set_option maxRecDepth 100000
/-- The one answer of all, if there is one. -/
def meetO : List (Option (Int × Int)) → Option (Int × Int)
  | [] => none
  | o :: r => if r.all (fun q => decide (q = o)) then o else none
theorem meetO_nil : meetO [] = none := rfl
theorem meetO_congr {α : Type} {L : List α} {f g : α → Option (Int × Int)} (h : ∀ e ∈ L, f e = g e) : meetO (L.map f) = meetO (L.map g) := by
  rw [List.map_congr_left h]
/-- What a walk over the answers, one by one, has so far: an answer all the same, or none any more. -/
theorem meetO_snoc_none {L : List (Option (Int × Int))} (h : meetO L = none) (hL : L ≠ []) (q : Option (Int × Int)) : meetO (L ++ [q]) = none := by
  cases L with
  | nil => exact (hL rfl).elim
  | cons o r =>
    simp only [meetO, List.cons_append, List.all_append, List.all_cons, List.all_nil, Bool.and_true] at h ⊢
    by_cases hr : (r.all fun q => decide (q = o)) = true
    · rw [if_pos hr] at h
      subst h
      split <;> rfl
    · rw [if_neg (by simp only [Bool.and_eq_true]; exact fun h => hr h.1)]
theorem meetO_snoc_some {L : List (Option (Int × Int))} {p : Int × Int} (h : meetO L = some p) (q : Option (Int × Int)) : meetO (L ++ [q]) = if q = some p then some p else none := by
  cases L with
  | nil => cases h
  | cons o r =>
    simp only [meetO, List.cons_append, List.all_append, List.all_cons, List.all_nil, Bool.and_true] at h ⊢
    by_cases hr : (r.all fun q => decide (q = o)) = true
    · rw [if_pos hr] at h
      subst h
      rw [hr, Bool.true_and]
      by_cases hq : q = some p
      · rw [if_pos (by simpa using hq), if_pos hq]
      · rw [if_neg (by simpa using hq), if_neg hq]
    · rw [if_neg hr] at h
      cases h
theorem meetO_one (q : Option (Int × Int)) : meetO [q] = q := rfl
/-- A bad answer among them: none. -/
theorem meetO_bad {L : List (Option (Int × Int))} {i : Nat} (h : meetO (L.take i) = none) (hi : i ≠ 0) (hL : i ≤ L.length) : meetO L = none := by
  have key : ∀ (n : Nat), i ≤ n → n ≤ L.length → meetO (L.take n) = none := by
    intro n
    induction n with
    | zero => intro h1 _; omega
    | succ n ih =>
      intro h1 h2
      by_cases he : i = n + 1
      · rw [← he]; exact h
      · obtain ⟨q, hq⟩ : ∃ q, L[n]? = some q := ⟨L[n], List.getElem?_eq_getElem (by omega)⟩
        rw [List.take_add_one, hq]
        exact meetO_snoc_none (ih (by omega) (by omega)) (fun e => by
          have := congrArg List.length e
          rw [List.length_take, List.length_nil] at this
          omega) q
  have := key L.length hL (Nat.le_refl _)
  rwa [List.take_length] at this
section
variable (N : Nat) (l : List Lnk) (x : Wnt) (gn : List Bool)
noncomputable def reachF (b : Int) : Nat → Int × Int → Option (Int × Int)
  | 0, p => if p.1 = b then some p else none
  | f + 1, p => if p.1 = b then some p else meetO ((nextT N l p.1 b).map fun e => (stepO N l x gn p.1 p.2 e).bind (reachF b f))
/-- Where all shortest ways by the tables come to a node from a state: one and the same state. -/
noncomputable def reachO (b : Int) (p : Int × Int) : Option (Int × Int) := reachF N l x gn b (distT N l p.1 b).toNat p
variable {N l x gn}
theorem stepO_to {v k e : Int} {p : Int × Int} (h : stepO N l x gn v k e = some p) : p.1 = (endsS l e).2.1 := by
  unfold stepO at h
  split at h
  · injection h with h
    rw [← h]
    rfl
  · cases h
theorem reachF_same (hg : GOk N l) (b : Int) : ∀ (f g : Nat) (p : Int × Int), (distT N l p.1 b).toNat ≤ f → (distT N l p.1 b).toNat ≤ g → reachF N l x gn b f p = reachF N l x gn b g p := by
  intro f
  induction f with
  | zero =>
    intro g p hf _
    cases g with
    | zero => rfl
    | succ g =>
      unfold reachF
      by_cases hp : p.1 = b
      · rw [if_pos hp, if_pos hp]
      · rw [if_neg hp, if_neg hp]
        have hn : nextT N l p.1 b = [] := by
          have h1 : ¬0 < (nextT N l p.1 b).length := fun h => by have := (nextT_some hg p.1 b).1 h; omega
          exact List.length_eq_zero_iff.1 (by omega)
        rw [hn]; rfl
  | succ f ih =>
    intro g p hf hg'
    cases g with
    | zero =>
      unfold reachF
      by_cases hp : p.1 = b
      · rw [if_pos hp, if_pos hp]
      · rw [if_neg hp, if_neg hp]
        have hn : nextT N l p.1 b = [] := by
          have h1 : ¬0 < (nextT N l p.1 b).length := fun h => by have := (nextT_some hg p.1 b).1 h; omega
          exact List.length_eq_zero_iff.1 (by omega)
        rw [hn]; rfl
    | succ g =>
      unfold reachF
      by_cases hp : p.1 = b
      · rw [if_pos hp, if_pos hp]
      · rw [if_neg hp, if_neg hp]
        refine meetO_congr fun e he => ?_
        obtain ⟨k, A, y, z, _, _, hk, hz, hends, _, hd⟩ := nextT_mem hg he
        obtain ⟨_, _, z', hz', _, _, _, _, _, _, _, hk1, _⟩ := edge_facts hg hk
        rw [hz] at hz'
        injection hz' with hz'
        subst hz'
        cases hs : stepO N l x gn p.1 p.2 e with
        | none => rfl
        | some q =>
          have hq := stepO_to hs
          rw [hends] at hq
          have hzm : 1 ≤ z.m := hk1
          have hr := distT_range hg q.1 b
          rw [hq] at hr
          exact ih g q (by rw [hq]; simp only at hd ⊢; omega) (by rw [hq]; simp only at hd ⊢; omega)
theorem reachO_eq (hg : GOk N l) (b : Int) (p : Int × Int) : reachO N l x gn b p = if p.1 = b then some p else meetO ((nextT N l p.1 b).map fun e => (stepO N l x gn p.1 p.2 e).bind (reachO N l x gn b)) := by
  have h0 : reachO N l x gn b p = reachF N l x gn b ((distT N l p.1 b).toNat + 1) p := reachF_same hg b _ _ p (Nat.le_refl _) (by omega)
  rw [h0]
  unfold reachF
  by_cases hp : p.1 = b
  · rw [if_pos hp, if_pos hp]
  · rw [if_neg hp, if_neg hp]
    refine meetO_congr fun e he => ?_
    obtain ⟨k, A, y, z, _, _, hk, hz, hends, _, hd⟩ := nextT_mem hg he
    obtain ⟨_, _, z', hz', _, _, _, _, _, _, _, hk1, _⟩ := edge_facts hg hk
    rw [hz] at hz'
    injection hz' with hz'
    subst hz'
    cases hs : stepO N l x gn p.1 p.2 e with
    | none => rfl
    | some q =>
      have hq := stepO_to hs
      rw [hends] at hq
      have hr := distT_range hg q.1 b
      rw [hq] at hr
      exact reachF_same hg b _ _ q (by rw [hq]; simp only at hd ⊢; omega) (Nat.le_refl _)
/-- Along an edge it is nearer. -/
theorem next_near (hg : GOk N l) {b : Int} {p q : Int × Int} {e : Int} (he : e ∈ nextT N l p.1 b) (hs : stepO N l x gn p.1 p.2 e = some q) : (distT N l q.1 b).toNat < (distT N l p.1 b).toNat := by
  obtain ⟨k, A, y, z, _, _, hk, hz, hends, _, hd⟩ := nextT_mem hg he
  obtain ⟨_, _, z', hz', _, _, _, _, _, _, _, hk1, _⟩ := edge_facts hg hk
  rw [hz] at hz'
  injection hz' with hz'
  subst hz'
  have hq := stepO_to hs
  rw [hends] at hq
  have hr := distT_range hg q.1 b
  rw [hq] at hr ⊢
  have := (nextT_some hg p.1 b).1 (List.length_pos_of_mem he)
  simp only at hd ⊢
  omega
variable (N l x gn)
/-- Where a segment leads. -/
noncomputable def segO (p : Int × Int) (e : Bool) (t : Int) : Option (Int × Int) :=
  if e = true then stepO N l x gn p.1 p.2 t
  else if 0 ≤ t ∧ t < N ∧ 0 ≤ p.1 ∧ p.1 < N ∧ p.1 ≠ t ∧ 0 ≤ p.2 ∧ p.2 < (ptsS x).length then reachO N l x gn t p else none
end
end Go.Proofs.Ytkemcgbedapkcaa

/- The shortest lists, plainly. -/
namespace Go.Proofs.Ytkemcgbedapkcaa
open Go.RowKit
set_option maxHeartbeats 6400000
set_option maxRecDepth 100000
/-- All segments of a graph, in order. -/
def segsS (N : Nat) (l : List Lnk) : List Sg := (List.range N).map (fun i => ⟨false, (i : Int)⟩) ++ (List.range (2 * l.length)).map (fun i => ⟨true, (i : Int)⟩)
def cutD (d : Int) : Nat := if d < 0 then 0 else if 10 < d then 10 else d.toNat
theorem cutD_le (d : Int) : cutD d ≤ 10 := by unfold cutD; split <;> (try split) <;> omega
theorem cutD_nat {d : Nat} (h : d ≤ 10) : cutD (d : Int) = d := by unfold cutD; rw [if_neg (by omega), if_neg (by omega)]; omega
def goB (c : Int × Int → Bool) (o : Option (Int × Int)) : Bool :=
  match o with
  | some q => c q
  | none => false
section
variable (N : Nat) (l : List Lnk) (x : Wnt) (gn : List Bool)
/-- Is there a list of n segments from a state to the goal? -/
noncomputable def canS : Nat → Int × Int → Bool
  | 0, p => decide (p = goalS x)
  | n + 1, p => (segsS N l).any fun s => goB (canS n) (segO N l x gn p s.edge s.too)
noncomputable def leastS (d : Nat) (p : Int × Int) : Option Nat := (List.range (d + 1)).find? fun n => canS N l x gn n p
/-- The first one of n segments. -/
noncomputable def pathS : Nat → Int × Int → List Sg
  | 0, _ => []
  | n + 1, p => match (segsS N l).find? (fun s => goB (canS N l x gn n) (segO N l x gn p s.edge s.too)) with
    | some s => s :: pathS n ((segO N l x gn p s.edge s.too).getD p)
    | none => []
/-- What a want is compiled to. -/
noncomputable def compS (dn : List Bool) (d : Int) : List Sg × Int :=
  if (costS N l x dn).2 ≠ 0 then ([], (costS N l x dn).2)
  else match leastS N l x (prunedS N l x dn) (cutD d) (startS x) with
    | none => ([], 9)
    | some n => (pathS N l x (prunedS N l x dn) n (startS x), 0)
variable {N l x gn}
theorem canS_find {n : Nat} {p : Int × Int} (h : canS N l x gn (n + 1) p = true) : ∃ (s : Sg) (q : Int × Int), (segsS N l).find? (fun s => goB (canS N l x gn n) (segO N l x gn p s.edge s.too)) = some s ∧ s ∈ segsS N l ∧ segO N l x gn p s.edge s.too = some q ∧ canS N l x gn n q = true := by
  unfold canS at h
  obtain ⟨s, hs⟩ : ∃ s, (segsS N l).find? (fun s => goB (canS N l x gn n) (segO N l x gn p s.edge s.too)) = some s := by
    cases hf : (segsS N l).find? (fun s => goB (canS N l x gn n) (segO N l x gn p s.edge s.too)) with
    | some s => exact ⟨s, rfl⟩
    | none =>
      rw [List.find?_eq_none] at hf
      obtain ⟨s, hm, hs⟩ := List.any_eq_true.1 h
      exact (hf s hm hs).elim
  have h1 := List.find?_some hs
  cases hq : segO N l x gn p s.edge s.too with
  | none => rw [hq] at h1; cases h1
  | some q => rw [hq] at h1; exact ⟨s, q, hs, List.mem_of_find?_eq_some hs, hq, h1⟩
theorem pathS_len : ∀ {n : Nat} {p : Int × Int}, canS N l x gn n p = true → (pathS N l x gn n p).length = n
  | 0, p, _ => rfl
  | n + 1, p, h => by
    obtain ⟨s, q, hs, _, hq, hc⟩ := canS_find h
    unfold pathS
    rw [hs]
    simp only [List.length_cons]
    rw [hq]
    exact congrArg (· + 1) (pathS_len hc)
theorem leastS_some {d n : Nat} {p : Int × Int} (h : leastS N l x gn d p = some n) : n ≤ d ∧ canS N l x gn n p = true ∧ ∀ m, m < n → canS N l x gn m p = false := by
  unfold leastS at h
  rw [List.find?_range_eq_some] at h
  obtain ⟨h1, h2, h3⟩ := h
  rw [List.mem_range] at h2
  exact ⟨by omega, h1, fun m hm => by simpa using h3 m hm⟩
theorem leastS_none {d : Nat} {p : Int × Int} (h : leastS N l x gn d p = none) : ∀ m, m ≤ d → canS N l x gn m p = false := by
  unfold leastS at h
  rw [List.find?_eq_none] at h
  intro m hm
  simpa using h m (List.mem_range.2 (by omega))
theorem leastS_is {d n : Nat} {p : Int × Int} (hn : n ≤ d) (h : canS N l x gn n p = true) (h2 : ∀ m, m < n → canS N l x gn m p = false) : leastS N l x gn d p = some n := by
  unfold leastS
  rw [List.find?_range_eq_some]
  exact ⟨h, List.mem_range.2 (by omega), fun m hm => by simpa using h2 m hm⟩
theorem leastS_up {d d' n : Nat} {p : Int × Int} (h : leastS N l x gn d p = some n) (hd : d ≤ d') : leastS N l x gn d' p = some n := by
  obtain ⟨h1, h2, h3⟩ := leastS_some h
  exact leastS_is (by omega) h2 h3
theorem compS_err {dn : List Bool} {d : Int} (h : (compS N l x dn d).2 ≠ 0) : (compS N l x dn d).1 = [] := by
  unfold compS at h ⊢
  split
  · rfl
  · rename_i h1
    rw [if_neg h1] at h
    revert h
    cases leastS N l x (prunedS N l x dn) (cutD d) (startS x) with
    | none => intro _; rfl
    | some n => intro h; exact (h rfl).elim
theorem compS_len {dn : List Bool} {d : Int} : (compS N l x dn d).1.length ≤ 10 := by
  unfold compS
  split
  · exact Nat.zero_le _
  · cases h : leastS N l x (prunedS N l x dn) (cutD d) (startS x) with
    | none => exact Nat.zero_le _
    | some n =>
      obtain ⟨h1, h2, _⟩ := leastS_some h
      have := cutD_le d
      simp only
      rw [pathS_len h2]
      omega
end
end Go.Proofs.Ytkemcgbedapkcaa

/- What Compile's walk over the states is held against, plainly. -/
namespace Go.Proofs.Ytkemcgbedapkcaa
open Go.RowKit
set_option maxHeartbeats 6400000
set_option maxRecDepth 100000
theorem nodup_le : ∀ (n : Nat) (L : List Nat), L.Nodup → (∀ a ∈ L, a < n) → L.length ≤ n
  | 0, L, _, h => by
    cases L with
    | nil => exact Nat.le_refl _
    | cons a r => exact absurd (h a List.mem_cons_self) (by omega)
  | n + 1, L, hn, h => by
    by_cases hm : n ∈ L
    · have h1 := nodup_le n (L.erase n) (hn.erase n) (fun a ha => by
        have h2 := (hn.mem_erase_iff).1 ha
        have h3 := h a h2.2
        have := h2.1
        omega)
      rw [List.length_erase_of_mem hm] at h1
      omega
    · have h1 := nodup_le n L hn (fun a ha => by
        have h3 := h a ha
        have : a ≠ n := fun e => hm (e ▸ ha)
        omega)
      omega
/-- A state that may be. -/
def InS (N : Nat) (x : Wnt) (p : Int × Int) : Prop := 0 ≤ p.1 ∧ p.1 < N ∧ 0 ≤ p.2 ∧ p.2 < (ptsS x).length
theorem states_le {N : Nat} {x : Wnt} {L : List (Int × Int)} (hN : N ≤ 10) (hv : x.via.length ≤ 4) (hn : L.Nodup) (h : ∀ p ∈ L, InS N x p) : L.length ≤ 60 := by
  have hp := ptsS_len x
  have h1 := nodup_le 60 (L.map fun p => p.1.toNat * 6 + p.2.toNat) (by
    refine List.pairwise_map.2 (List.Pairwise.imp_of_mem (fun {a b} ha hb hab => ?_) hn)
    intro e
    have h1 := h a ha
    have h2 := h b hb
    unfold InS at h1 h2
    refine hab (Prod.ext ?_ ?_) <;> omega) (fun a ha => by
    obtain ⟨p, hpm, rfl⟩ := List.mem_map.1 ha
    have h1 := h p hpm
    unfold InS at h1
    omega)
  rwa [List.length_map] at h1
theorem meetO_one_of {L : List (Option (Int × Int))} {q : Int × Int} (h : meetO L = some q) : some q ∈ L := by
  cases L with
  | nil => cases h
  | cons o r =>
    have h' : (if r.all (fun q => decide (q = o)) then o else none) = some q := h
    split at h'
    · rw [h']; exact List.mem_cons_self
    · cases h'
section
variable {N : Nat} {l : List Lnk} {x : Wnt} {gn : List Bool}
theorem stepO_in {v k e : Int} {q : Int × Int} (hr : rightS N l x = 0) (h : stepO N l x gn v k e = some q) : InS N x q := by
  obtain ⟨K, a, b, j, -, -, -, -, -, -, -, hb, rfl, -, hj, -⟩ := stepO_form hr h
  exact ⟨by omega, hb, by omega, by simp only; omega⟩
theorem reachO_in (hg : GOk N l) (hr : rightS N l x = 0) {b : Int} : ∀ (f : Nat) (p q : Int × Int), (distT N l p.1 b).toNat ≤ f → InS N x p → reachO N l x gn b p = some q → InS N x q := by
  intro f
  induction f with
  | zero =>
    intro p q hf hp h
    rw [reachO_eq hg] at h
    by_cases hpb : p.1 = b
    · rw [if_pos hpb] at h; cases h; exact hp
    · rw [if_neg hpb] at h
      have h1 := meetO_one_of h
      obtain ⟨e, he, h2⟩ := List.mem_map.1 h1
      cases hs : stepO N l x gn p.1 p.2 e with
      | none => rw [hs] at h2; cases h2
      | some p2 =>
        have := next_near hg he hs
        omega
  | succ f ih =>
    intro p q hf hp h
    rw [reachO_eq hg] at h
    by_cases hpb : p.1 = b
    · rw [if_pos hpb] at h; cases h; exact hp
    · rw [if_neg hpb] at h
      have h1 := meetO_one_of h
      obtain ⟨e, he, h2⟩ := List.mem_map.1 h1
      cases hs : stepO N l x gn p.1 p.2 e with
      | none => rw [hs] at h2; cases h2
      | some p2 =>
        rw [hs] at h2
        have := next_near hg he hs
        exact ih p2 q (by omega) (stepO_in hr hs) h2
theorem segO_in (hg : GOk N l) (hr : rightS N l x = 0) {p q : Int × Int} {e : Bool} {t : Int} (hp : InS N x p) (h : segO N l x gn p e t = some q) : InS N x q := by
  unfold segO at h
  split at h
  · exact stepO_in hr h
  · split at h
    · exact reachO_in hg hr _ p q (Nat.le_refl _) hp h
    · cases h
theorem startS_in (hr : rightS N l x = 0) : InS N x (startS x) := by
  obtain ⟨hck, hpv, hv⟩ := right_ok hr
  have hf := hpv x.frm (by unfold ptsS; simp)
  have hrn := runN_le x.frm ((ptsS x).drop 1)
  rw [List.length_drop] at hrn
  have hl := ptsS_len x
  refine ⟨hf.1, hf.2, ?_, ?_⟩
  · show 0 ≤ (if (0 : Int) ≤ 0 then (0 : Int) + (runN x.frm ((ptsS x).drop 1) : Nat) else 0)
    rw [if_pos (Int.le_refl 0)]; omega
  · show (if (0 : Int) ≤ 0 then (0 : Int) + (runN x.frm ((ptsS x).drop 1) : Nat) else 0) < _
    rw [if_pos (Int.le_refl 0)]; omega
variable (N l x gn)
/-- How many segments are left from a state, as far as n; below 0: not known. -/
noncomputable def leastV (d : Nat) (p : Int × Int) : Int := match leastS N l x gn d p with
  | some m => (m : Int)
  | none => -1
variable {N l x gn}
theorem leastV_some {d m : Nat} {p : Int × Int} (h : leastS N l x gn d p = some m) : leastV N l x gn d p = m := by unfold leastV; rw [h]
theorem leastV_none {d : Nat} {p : Int × Int} (h : leastS N l x gn d p = none) : leastV N l x gn d p = -1 := by unfold leastV; rw [h]
theorem leastV_rng {d : Nat} {p : Int × Int} : -1 ≤ leastV N l x gn d p ∧ leastV N l x gn d p ≤ d := by
  cases h : leastS N l x gn d p with
  | none => rw [leastV_none h]; omega
  | some m => rw [leastV_some h]; have := (leastS_some h).1; omega
theorem leastV_eq {d : Nat} {p : Int × Int} {m : Nat} : leastV N l x gn d p = (m : Int) ↔ leastS N l x gn d p = some m := by
  constructor
  · intro h
    cases hs : leastS N l x gn d p with
    | none => rw [leastV_none hs] at h; omega
    | some k => rw [leastV_some hs] at h; rw [show k = m by omega]
  · exact leastV_some
theorem leastV_neg {d : Nat} {p : Int × Int} : leastV N l x gn d p < 0 ↔ leastS N l x gn d p = none := by
  constructor
  · intro h
    cases hs : leastS N l x gn d p with
    | none => rfl
    | some k => rw [leastV_some hs] at h; omega
  · intro h; rw [leastV_none h]; omega
theorem leastV_zero {p : Int × Int} : leastV N l x gn 0 p = if p = goalS x then 0 else -1 := by
  by_cases h : p = goalS x
  · rw [if_pos h]
    have := leastV_some (leastS_is (N := N) (l := l) (x := x) (gn := gn) (p := p) (d := 0) (n := 0) (Nat.le_refl _) (by unfold canS; simp [h]) (fun m hm => absurd hm (Nat.not_lt_zero m)))
    simpa using this
  · rw [if_neg h]
    refine leastV_none ?_
    cases hs : leastS N l x gn 0 p with
    | none => rfl
    | some m =>
      obtain ⟨h1, h2, _⟩ := leastS_some hs
      obtain rfl : m = 0 := by omega
      unfold canS at h2
      exact absurd (by simpa using h2) h
/-- A state from which one more round tells nothing stays. -/
theorem leastV_keep {n : Nat} {p : Int × Int} (h : 0 ≤ leastV N l x gn n p) : leastV N l x gn (n + 1) p = leastV N l x gn n p := by
  obtain ⟨m, hm⟩ := Int.eq_ofNat_of_zero_le h
  rw [hm]
  exact leastV_some (leastS_up (leastV_eq.1 hm) (Nat.le_succ _))
theorem leastS_new {n : Nat} {p : Int × Int} (h : leastS N l x gn n p = none) : leastS N l x gn (n + 1) p = if canS N l x gn (n + 1) p = true then some (n + 1) else none := by
  have h0 := leastS_none h
  by_cases hc : canS N l x gn (n + 1) p = true
  · rw [if_pos hc]
    exact leastS_is (Nat.le_refl _) hc (fun m hm => h0 m (by omega))
  · rw [if_neg hc]
    cases hs : leastS N l x gn (n + 1) p with
    | none => rfl
    | some m =>
      obtain ⟨h1, h2, _⟩ := leastS_some hs
      by_cases hm : m ≤ n
      · rw [h0 m hm] at h2; cases h2
      · obtain rfl : m = n + 1 := by omega
        exact absurd h2 hc
/-- Where p has nothing shorter, what it leads to is met with n just if its number is n. -/
theorem can_least {n d : Nat} {p q : Int × Int} {s : Sg} (hs : s ∈ segsS N l) (hq : segO N l x gn p s.edge s.too = some q) (hp : ∀ m, m ≤ n → canS N l x gn m p = false) (hd : n ≤ d) : canS N l x gn n q = true ↔ leastV N l x gn d q = (n : Int) := by
  constructor
  · intro h
    refine leastV_some (leastS_is hd h (fun m hm => ?_))
    cases hc : canS N l x gn m q with
    | false => rfl
    | true =>
      have h2 : canS N l x gn (m + 1) p = true := by
        unfold canS
        exact List.any_eq_true.2 ⟨s, hs, by rw [hq]; exact hc⟩
      rw [hp (m + 1) (by omega)] at h2
      cases h2
  · intro h
    exact (leastS_some (leastV_eq.1 h)).2.1
/-- One round more. -/
theorem leastV_new {n : Nat} {p : Int × Int} (h : leastV N l x gn n p < 0) : leastV N l x gn (n + 1) p = if (segsS N l).any (fun s => goB (fun q => decide (leastV N l x gn n q = (n : Int))) (segO N l x gn p s.edge s.too)) = true then ((n + 1 : Nat) : Int) else -1 := by
  have h1 := leastV_neg.1 h
  have h0 := leastS_none h1
  have hc : canS N l x gn (n + 1) p = (segsS N l).any (fun s => goB (fun q => decide (leastV N l x gn n q = (n : Int))) (segO N l x gn p s.edge s.too)) := by
    rw [canS]
    rw [Bool.eq_iff_iff, List.any_eq_true, List.any_eq_true]
    constructor
    · rintro ⟨s, hs, hb⟩
      refine ⟨s, hs, ?_⟩
      cases hq : segO N l x gn p s.edge s.too with
      | none => rw [hq] at hb; cases hb
      | some q =>
        rw [hq] at hb
        show decide _ = true
        rw [decide_eq_true_iff]
        exact (can_least hs hq h0 (Nat.le_refl _)).1 hb
    · rintro ⟨s, hs, hb⟩
      refine ⟨s, hs, ?_⟩
      cases hq : segO N l x gn p s.edge s.too with
      | none => rw [hq] at hb; cases hb
      | some q =>
        rw [hq] at hb
        have hb' : decide (leastV N l x gn n q = (n : Int)) = true := hb
        rw [decide_eq_true_iff] at hb'
        exact (can_least hs hq h0 (Nat.le_refl _)).2 hb'
  have h5 := leastS_new h1
  rw [hc] at h5
  by_cases h6 : (segsS N l).any (fun s => goB (fun q => decide (leastV N l x gn n q = (n : Int))) (segO N l x gn p s.edge s.too)) = true
  · rw [if_pos h6] at h5 ⊢
    exact leastV_some h5
  · rw [if_neg h6] at h5 ⊢
    exact leastV_none h5
/-- The first segment of a path. -/
theorem path_first {m d : Nat} {p : Int × Int} (h : leastV N l x gn d p = ((m + 1 : Nat) : Int)) : ∃ (s : Sg) (q : Int × Int), (segsS N l).find? (fun s => goB (fun q => decide (leastV N l x gn d q = (m : Int))) (segO N l x gn p s.edge s.too)) = some s ∧ segO N l x gn p s.edge s.too = some q ∧ leastV N l x gn d q = (m : Int) ∧ pathS N l x gn (m + 1) p = s :: pathS N l x gn m q := by
  obtain ⟨h1, h2, h3⟩ := leastS_some (leastV_eq.1 h)
  have hp : ∀ k, k ≤ m → canS N l x gn k p = false := fun k hk => h3 k (by omega)
  obtain ⟨s, q, hf, hs, hq, hc⟩ := canS_find h2
  have he : (segsS N l).find? (fun s => goB (fun q => decide (leastV N l x gn d q = (m : Int))) (segO N l x gn p s.edge s.too)) = (segsS N l).find? (fun s => goB (canS N l x gn m) (segO N l x gn p s.edge s.too)) := by
    have key : ∀ L : List Sg, (∀ s ∈ L, s ∈ segsS N l) → L.find? (fun s => goB (fun q => decide (leastV N l x gn d q = (m : Int))) (segO N l x gn p s.edge s.too)) = L.find? (fun s => goB (canS N l x gn m) (segO N l x gn p s.edge s.too)) := by
      intro L
      induction L with
      | nil => intro _; rfl
      | cons a r ih =>
        intro hL
        have ha : goB (fun q => decide (leastV N l x gn d q = (m : Int))) (segO N l x gn p a.edge a.too) = goB (canS N l x gn m) (segO N l x gn p a.edge a.too) := by
          cases hq2 : segO N l x gn p a.edge a.too with
          | none => rfl
          | some q2 =>
            show decide _ = canS N l x gn m q2
            rw [Bool.eq_iff_iff, decide_eq_true_iff]
            exact (can_least (hL a List.mem_cons_self) hq2 hp (by omega)).symm
        rw [List.find?_cons, List.find?_cons, ha, ih (fun s hs => hL s (List.mem_cons_of_mem _ hs))]
    exact key _ (fun s hs => hs)
  refine ⟨s, q, by rw [he]; exact hf, hq, (can_least hs hq hp (by omega)).1 hc, ?_⟩
  rw [pathS, hf]
  simp only
  rw [hq]
  rfl
end
end Go.Proofs.Ytkemcgbedapkcaa

/- The search through lists, state by state, plainly. -/
namespace Go.Proofs.Ytkemcgbedapkcaa
open Go.RowKit
set_option maxHeartbeats 6400000
set_option maxRecDepth 100000
/-- A segment's number: nodes ahead of edges. -/
def sgN (N : Nat) (s : Sg) : Nat := if s.edge = true then N + s.too.toNat else s.too.toNat
def lexLe (N : Nat) : List Sg → List Sg → Prop
  | [], [] => True
  | s :: r, s' :: r' => sgN N s < sgN N s' ∨ s = s' ∧ lexLe N r r'
  | _, _ => False
/-- One list stands ahead of another, or is it. -/
def slLe (N : Nat) (L M : List Sg) : Prop := L.length < M.length ∨ L.length = M.length ∧ lexLe N L M
theorem lexLe_refl {N : Nat} : ∀ L : List Sg, lexLe N L L
  | [] => trivial
  | _ :: r => .inr ⟨rfl, lexLe_refl r⟩
theorem lexLe_trans {N : Nat} : ∀ {A B C : List Sg}, lexLe N A B → lexLe N B C → lexLe N A C
  | [], [], [], _, _ => trivial
  | [], [], _ :: _, _, h => h.elim
  | [], _ :: _, _, h, _ => h.elim
  | _ :: _, [], _, h, _ => h.elim
  | _ :: _, _ :: _, [], _, h => h.elim
  | a :: r, b :: r', c :: r'', h, h' => by
    rcases h with h | ⟨rfl, h⟩
    · rcases h' with h' | ⟨rfl, h'⟩
      · exact .inl (Nat.lt_trans h h')
      · exact .inl h
    · rcases h' with h' | ⟨rfl, h'⟩
      · exact .inl h'
      · exact .inr ⟨rfl, lexLe_trans h h'⟩
theorem lexLe_anti {N : Nat} : ∀ {A B : List Sg}, lexLe N A B → lexLe N B A → A = B
  | [], [], _, _ => rfl
  | [], _ :: _, h, _ => h.elim
  | _ :: _, [], h, _ => h.elim
  | a :: r, b :: r', h, h' => by
    rcases h with h | ⟨rfl, h⟩
    · rcases h' with h' | ⟨rfl, h'⟩
      · omega
      · omega
    · rcases h' with h' | ⟨_, h'⟩
      · omega
      · rw [lexLe_anti h h']
theorem lexLe_snoc {N : Nat} {s s' : Sg} : ∀ {A B : List Sg}, lexLe N A B → (sgN N s < sgN N s' ∨ s = s') → lexLe N (A ++ [s]) (B ++ [s'])
  | [], [], _, h => by
    rcases h with h | rfl
    · exact .inl h
    · exact .inr ⟨rfl, trivial⟩
  | [], _ :: _, h, _ => h.elim
  | _ :: _, [], h, _ => h.elim
  | a :: r, b :: r', h, h' => by
    rcases h with h | ⟨rfl, h⟩
    · exact .inl h
    · exact .inr ⟨rfl, lexLe_snoc h h'⟩
theorem lexLe_strict {N : Nat} {s s' : Sg} : ∀ {A B : List Sg}, lexLe N A B → A ≠ B → lexLe N (A ++ [s]) (B ++ [s'])
  | [], [], _, h => (h rfl).elim
  | [], _ :: _, h, _ => h.elim
  | _ :: _, [], h, _ => h.elim
  | a :: r, b :: r', h, h' => by
    rcases h with h | ⟨rfl, h⟩
    · exact .inl h
    · exact .inr ⟨rfl, lexLe_strict h (fun e => h' (by rw [e]))⟩
theorem slLe_refl {N : Nat} (L : List Sg) : slLe N L L := .inr ⟨rfl, lexLe_refl L⟩
theorem slLe_trans {N : Nat} {A B C : List Sg} (h : slLe N A B) (h' : slLe N B C) : slLe N A C := by
  rcases h with h | ⟨h, k⟩
  · rcases h' with h' | ⟨h', _⟩
    · exact .inl (by omega)
    · exact .inl (by omega)
  · rcases h' with h' | ⟨h', k'⟩
    · exact .inl (by omega)
    · exact .inr ⟨by omega, lexLe_trans k k'⟩
theorem slLe_anti {N : Nat} {A B : List Sg} (h : slLe N A B) (h' : slLe N B A) : A = B := by
  rcases h with h | ⟨h, k⟩
  · rcases h' with h' | ⟨h', _⟩ <;> omega
  · rcases h' with h' | ⟨h', k'⟩
    · omega
    · exact lexLe_anti k k'
theorem slLe_len {N : Nat} {A B : List Sg} (h : slLe N A B) : A.length ≤ B.length := by rcases h with h | ⟨h, _⟩ <;> omega
theorem slLe_snoc {N : Nat} {A B : List Sg} {s s' : Sg} (h : slLe N A B) (hs : sgN N s < sgN N s' ∨ s = s') : slLe N (A ++ [s]) (B ++ [s']) := by
  rcases h with h | ⟨h, k⟩
  · exact .inl (by simp; omega)
  · exact .inr ⟨by simp; omega, lexLe_snoc k hs⟩
theorem slLe_strict {N : Nat} {A B : List Sg} {s s' : Sg} (h : slLe N A B) (hn : A ≠ B) : slLe N (A ++ [s]) (B ++ [s']) := by
  rcases h with h | ⟨h, k⟩
  · exact .inl (by simp; omega)
  · exact .inr ⟨by simp; omega, lexLe_strict k hn⟩
theorem segsS_sorted (N : Nat) (l : List Lnk) : (segsS N l).Pairwise (fun a b => sgN N a < sgN N b) := by
  unfold segsS
  refine List.pairwise_append.2 ⟨?_, ?_, ?_⟩
  · refine List.pairwise_map.2 (List.pairwise_lt_range.imp (fun {a b} h => ?_))
    show (a : Int).toNat < (b : Int).toNat
    omega
  · refine List.pairwise_map.2 (List.pairwise_lt_range.imp (fun {a b} h => ?_))
    show N + (a : Int).toNat < N + (b : Int).toNat
    omega
  · intro a ha b hb
    obtain ⟨i, hi, rfl⟩ := List.mem_map.1 ha
    obtain ⟨j, hj, rfl⟩ := List.mem_map.1 hb
    have := List.mem_range.1 hi
    show (i : Int).toNat < N + (j : Int).toNat
    omega
theorem sgN_inj {N : Nat} {l : List Lnk} {a b : Sg} (ha : a ∈ segsS N l) (hb : b ∈ segsS N l) (h : sgN N a = sgN N b) : a = b := by
  unfold segsS at ha hb
  rcases List.mem_append.1 ha with ha | ha <;> rcases List.mem_append.1 hb with hb | hb <;>
    (obtain ⟨i, hi, rfl⟩ := List.mem_map.1 ha; obtain ⟨j, hj, rfl⟩ := List.mem_map.1 hb; have h1 := List.mem_range.1 hi; have h2 := List.mem_range.1 hj; simp [sgN] at h; try omega)
  · rw [h]
  · rw [h]
theorem sgN_lt {N : Nat} {l : List Lnk} {a : Sg} (ha : a ∈ segsS N l) : sgN N a < N + 2 * l.length := by
  unfold segsS at ha
  rcases List.mem_append.1 ha with ha | ha <;> (obtain ⟨i, hi, rfl⟩ := List.mem_map.1 ha; have h1 := List.mem_range.1 hi; simp [sgN]; omega)
theorem find_first {N : Nat} {l : List Lnk} {P : Sg → Bool} {s s' : Sg} (h : (segsS N l).find? P = some s) (hm : s' ∈ segsS N l) (hp : P s' = true) : sgN N s ≤ sgN N s' := by
  obtain ⟨_, L1, L2, he, hn⟩ := List.find?_eq_some_iff_append.1 h
  have hs := segsS_sorted N l
  rw [he] at hm hs
  rcases List.mem_append.1 hm with hm | hm
  · have := hn s' hm
    rw [hp] at this
    cases this
  · rcases List.mem_cons.1 hm with rfl | hm
    · exact Nat.le_refl _
    · exact Nat.le_of_lt ((List.pairwise_cons.1 (List.pairwise_append.1 hs).2.1).1 s' hm)
section
variable (N : Nat) (l : List Lnk) (x : Wnt) (gn : List Bool)
noncomputable def runC : List Sg → Int × Int → Option (Int × Int)
  | [], p => some p
  | s :: r, p => (segO N l x gn p s.edge s.too).bind (runC r)
variable {N l x gn}
theorem segO_mem (hr : rightS N l x = 0) {p q : Int × Int} {s : Sg} (h : segO N l x gn p s.edge s.too = some q) : s ∈ segsS N l := by
  obtain ⟨e, t⟩ := s
  unfold segO at h
  unfold segsS
  split at h
  · rename_i he
    simp only at he h
    subst he
    obtain ⟨K, a, b, j, -, -, h1, h0, -⟩ := stepO_form hr h
    refine List.mem_append_right _ (List.mem_map.2 ⟨t.toNat, List.mem_range.2 (by omega), ?_⟩)
    rw [show ((t.toNat : Nat) : Int) = t by omega]
  · rename_i he
    split at h
    · rename_i hc
      refine List.mem_append_left _ (List.mem_map.2 ⟨t.toNat, List.mem_range.2 (by have := hc.1; have := hc.2.1; simp only at *; omega), ?_⟩)
      have : e = false := by simpa using he
      subst this
      have := hc.1
      simp only at this
      rw [show ((t.toNat : Nat) : Int) = t by omega]
    · cases h
theorem runC_snoc : ∀ (A : List Sg) (s : Sg) (p : Int × Int), runC N l x gn (A ++ [s]) p = (runC N l x gn A p).bind fun q => segO N l x gn q s.edge s.too
  | [], s, p => by
    show (segO N l x gn p s.edge s.too).bind (runC N l x gn []) = segO N l x gn p s.edge s.too
    cases segO N l x gn p s.edge s.too <;> rfl
  | a :: A, s, p => by
    show (segO N l x gn p a.edge a.too).bind (runC N l x gn (A ++ [s])) = ((segO N l x gn p a.edge a.too).bind (runC N l x gn A)).bind _
    cases segO N l x gn p a.edge a.too with
    | none => rfl
    | some q => exact runC_snoc A s q
theorem run_can (hr : rightS N l x = 0) : ∀ (L : List Sg) (p : Int × Int), runC N l x gn L p = some (goalS x) → canS N l x gn L.length p = true
  | [], p, h => by
    have : p = goalS x := by simpa [runC] using h
    show decide (p = goalS x) = true
    simpa using this
  | s :: r, p, h => by
    obtain ⟨q, hq, hr'⟩ := Option.bind_eq_some_iff.1 h
    have h1 := run_can hr r q hr'
    show ((segsS N l).any fun s => goB (canS N l x gn r.length) (segO N l x gn p s.edge s.too)) = true
    refine List.any_eq_true.2 ⟨s, segO_mem hr hq, ?_⟩
    rw [hq]
    exact h1
theorem path_runC : ∀ (n : Nat) (p : Int × Int), canS N l x gn n p = true → runC N l x gn (pathS N l x gn n p) p = some (goalS x)
  | 0, p, h => by
    have : p = goalS x := by simpa [canS] using h
    rw [← this]; rfl
  | n + 1, p, h => by
    obtain ⟨s, q, hs, -, hq, hc⟩ := canS_find h
    unfold pathS
    rw [hs]
    simp only [runC, hq, Option.getD_some, Option.bind_some]
    exact path_runC n q hc
theorem path_min (hr : rightS N l x = 0) : ∀ (n : Nat) (p : Int × Int) (L : List Sg), canS N l x gn n p = true → L.length = n → runC N l x gn L p = some (goalS x) → lexLe N (pathS N l x gn n p) L
  | 0, p, L, _, hl, _ => by
    obtain rfl := List.length_eq_zero_iff.1 hl
    exact trivial
  | n + 1, p, [], _, hl, _ => by cases hl
  | n + 1, p, s' :: r, h, hl, hrun => by
    obtain ⟨s, q, hs, -, hq, hc⟩ := canS_find h
    obtain ⟨q', hq', hr'⟩ := Option.bind_eq_some_iff.1 hrun
    have hl' : r.length = n := by simpa using hl
    have hcan := run_can hr r q' hr'
    rw [hl'] at hcan
    have hm := segO_mem hr hq'
    have hle := find_first hs hm (by rw [hq']; exact hcan)
    unfold pathS
    rw [hs]
    rcases Nat.lt_or_ge (sgN N s) (sgN N s') with hlt | hge
    · exact .inl hlt
    · have hes : s = s' := sgN_inj (segO_mem hr hq) hm (by omega)
      subst hes
      rw [hq] at hq'
      injection hq' with hq'
      subst hq'
      refine .inr ⟨rfl, ?_⟩
      simp only [hq, Option.getD_some]
      exact path_min hr n q r hc hl' hr'
variable (N l x gn)
/-- What the search has found, list by list, while it stands at the i-th one, ahead of the segments from number t on. -/
structure BInv (d : Nat) (D : List ((Int × Int) × List Sg)) (i t : Nat) : Prop where
  hd : D[0]? = some (startS x, [])
  run : ∀ p L, (p, L) ∈ D → runC N l x gn L (startS x) = some p
  few : ∀ p L, (p, L) ∈ D → L.length ≤ d
  ins : ∀ p L, (p, L) ∈ D → InS N x p
  nod : (D.map (·.1)).Nodup
  min : ∀ p L, (p, L) ∈ D → ∀ M, runC N l x gn M (startS x) = some p → slLe N L M
  srt : D.Pairwise (fun a b => slLe N a.2 b.2)
  don : ∀ j p L, j < i → D[j]? = some (p, L) → L.length < d → ∀ (s : Sg) q, segO N l x gn p s.edge s.too = some q → q ∈ D.map (·.1)
  now : ∀ p L, D[i]? = some (p, L) → ∀ (s : Sg) q, sgN N s < t → segO N l x gn p s.edge s.too = some q → q ∈ D.map (·.1)
  top : ∀ p L, D[i]? = some (p, L) → ∀ a ∈ D, ∀ s : Sg, t ≤ sgN N s → slLe N a.2 (L ++ [s])
variable {N l x gn}
theorem BInv.start (hr : rightS N l x = 0) (d : Nat) : BInv N l x gn d [(startS x, [])] 0 0 where
  hd := rfl
  run p L h := by obtain ⟨rfl, rfl⟩ : p = startS x ∧ L = [] := by simpa using h
                  rfl
  few p L h := by obtain ⟨rfl, rfl⟩ : p = startS x ∧ L = [] := by simpa using h
                  exact Nat.zero_le _
  ins p L h := by obtain ⟨rfl, rfl⟩ : p = startS x ∧ L = [] := by simpa using h
                  exact startS_in hr
  nod := by simp
  min p L h M _ := by
    obtain ⟨rfl, rfl⟩ : p = startS x ∧ L = [] := by simpa using h
    cases M with
    | nil => exact slLe_refl _
    | cons a r => exact .inl (by simp)
  srt := by simp
  don j p L hj := absurd hj (Nat.not_lt_zero _)
  now p L _ s q hs := absurd hs (Nat.not_lt_zero _)
  top p L h a ha s _ := by
    obtain rfl : a = (startS x, []) := by simpa using ha
    exact .inl (by simp)
/-- Where a walk leaves what was found. -/
theorem BInv.leaves {d : Nat} {D : List ((Int × Int) × List Sg)} {i t : Nat} (h : BInv N l x gn d D i t) : ∀ (M A : List Sg) (p q : Int × Int), runC N l x gn A (startS x) = some p → p ∈ D.map (·.1) → runC N l x gn M p = some q → q ∉ D.map (·.1) →
    ∃ (B C : List Sg) (s : Sg) (r u : Int × Int), M = B ++ s :: C ∧ runC N l x gn (A ++ B) (startS x) = some r ∧ r ∈ D.map (·.1) ∧ segO N l x gn r s.edge s.too = some u ∧ u ∉ D.map (·.1)
  | [], A, p, q, hA, hp, hM, hq => by
    have : p = q := by simpa [runC] using hM
    exact (hq (this ▸ hp)).elim
  | s :: M, A, p, q, hA, hp, hM, hq => by
    obtain ⟨u, hu, hM'⟩ := Option.bind_eq_some_iff.1 hM
    by_cases hum : u ∈ D.map (·.1)
    · have hA' : runC N l x gn (A ++ [s]) (startS x) = some u := by rw [runC_snoc, hA]; exact hu
      obtain ⟨B, C, s', r, v, he, h1, h2⟩ := BInv.leaves h M (A ++ [s]) u q hA' hum hM' hq
      exact ⟨s :: B, C, s', r, v, by rw [he]; rfl, by rw [← h1, List.append_assoc]; rfl, h2⟩
    · exact ⟨[], M, s, p, u, rfl, by rw [List.append_nil]; exact hA, hp, hu, hum⟩
/-- A list that leads out of what was found is no shorter than the one where the search stands. -/
theorem BInv.out {d : Nat} {D : List ((Int × Int) × List Sg)} {i t : Nat} (h : BInv N l x gn d D i t) {pi : Int × Int} {Li : List Sg} (hi : D[i]? = some (pi, Li)) (hd : Li.length < d) {A : List Sg} {r u : Int × Int} {s : Sg} (hA : runC N l x gn A (startS x) = some r) (hr : r ∈ D.map (·.1))
    (hs : segO N l x gn r s.edge s.too = some u) (hu : u ∉ D.map (·.1)) : slLe N Li A ∧ (r = pi → t ≤ sgN N s) ∧ (r ≠ pi → Li ≠ A) := by
  obtain ⟨⟨r', L⟩, hm, rfl⟩ := List.mem_map.1 hr
  obtain ⟨j, hj⟩ := List.mem_iff_getElem?.1 hm
  have hle := h.min _ _ hm A hA
  rcases Nat.lt_trichotomy j i with hji | rfl | hji
  · refine (hu (h.don j _ _ hji hj ?_ s u hs)).elim
    have h1 : slLe N L Li := by
      have := List.pairwise_iff_getElem.1 h.srt j i (List.getElem?_eq_some_iff.1 hj).1 (List.getElem?_eq_some_iff.1 hi).1 hji
      rw [(List.getElem?_eq_some_iff.1 hj).2, (List.getElem?_eq_some_iff.1 hi).2] at this
      exact this
    have := slLe_len h1
    omega
  · rw [hi] at hj
    injection hj with hj
    injection hj with h1 h2
    subst h1 h2
    refine ⟨hle, fun _ => ?_, fun hn => (hn rfl).elim⟩
    rcases Nat.lt_or_ge (sgN N s) t with hlt | hge
    · exact (hu (h.now _ _ hi s u hlt hs)).elim
    · exact hge
  · have h1 : slLe N Li L := by
      have := List.pairwise_iff_getElem.1 h.srt i j (List.getElem?_eq_some_iff.1 hi).1 (List.getElem?_eq_some_iff.1 hj).1 hji
      rw [(List.getElem?_eq_some_iff.1 hj).2, (List.getElem?_eq_some_iff.1 hi).2] at this
      exact this
    have hne : r' ≠ pi := by
      intro e
      have hn := List.pairwise_iff_getElem.1 h.nod i j (by rw [List.length_map]; exact (List.getElem?_eq_some_iff.1 hi).1) (by rw [List.length_map]; exact (List.getElem?_eq_some_iff.1 hj).1) hji
      simp only [List.getElem_map, (List.getElem?_eq_some_iff.1 hj).2, (List.getElem?_eq_some_iff.1 hi).2] at hn
      exact hn e.symm
    refine ⟨slLe_trans h1 hle, fun e => (hne e).elim, fun hn e => hn ?_⟩
    have h2 := h.run _ _ (List.mem_of_getElem? hi)
    rw [e, hA] at h2
    injection h2
theorem BInv.seen {d : Nat} {D : List ((Int × Int) × List Sg)} {i t u : Nat} (h : BInv N l x gn d D i t) (htu : t ≤ u)
    (hn : ∀ p L, D[i]? = some (p, L) → ∀ (s : Sg) q, t ≤ sgN N s → sgN N s < u → segO N l x gn p s.edge s.too = some q → q ∈ D.map (·.1)) : BInv N l x gn d D i u :=
  { h with
    now := fun p L hi s q hs hq => by
      rcases Nat.lt_or_ge (sgN N s) t with hlt | hge
      · exact h.now p L hi s q hlt hq
      · exact hn p L hi s q hge hs hq
    top := fun p L hi a ha s hs => h.top p L hi a ha s (Nat.le_trans htu hs) }
theorem BInv.more (hg : GOk N l) (hr : rightS N l x = 0) {d : Nat} {D : List ((Int × Int) × List Sg)} {i t : Nat} (h : BInv N l x gn d D i t) {p : Int × Int} {L : List Sg} (hi : D[i]? = some (p, L)) (hd : L.length < d) {s : Sg} {q : Int × Int} (hs : sgN N s = t)
    (hq : segO N l x gn p s.edge s.too = some q) (hnew : q ∉ D.map (·.1)) : BInv N l x gn d (D ++ [(q, L ++ [s])]) i (t + 1) := by
  have hmi := List.mem_of_getElem? hi
  have hil := (List.getElem?_eq_some_iff.1 hi).1
  have hi' : (D ++ [(q, L ++ [s])])[i]? = some (p, L) := by rw [List.getElem?_append_left hil]; exact hi
  have hrun : runC N l x gn (L ++ [s]) (startS x) = some q := by rw [runC_snoc, h.run _ _ hmi]; exact hq
  have h0 : startS x ∈ D.map (·.1) := List.mem_map.2 ⟨_, List.mem_of_getElem? h.hd, rfl⟩
  have hmap : (D ++ [(q, L ++ [s])]).map (·.1) = D.map (·.1) ++ [q] := by simp
  refine ⟨?_, ?_, ?_, ?_, ?_, ?_, ?_, ?_, ?_, ?_⟩
  · rw [List.getElem?_append_left (by omega)]; exact h.hd
  · intro p' L' hm
    rcases List.mem_append.1 hm with hm | hm
    · exact h.run _ _ hm
    · obtain ⟨rfl, rfl⟩ : p' = q ∧ L' = L ++ [s] := by simpa using hm
      exact hrun
  · intro p' L' hm
    rcases List.mem_append.1 hm with hm | hm
    · exact h.few _ _ hm
    · obtain ⟨rfl, rfl⟩ : p' = q ∧ L' = L ++ [s] := by simpa using hm
      rw [List.length_append, List.length_singleton]; omega
  · intro p' L' hm
    rcases List.mem_append.1 hm with hm | hm
    · exact h.ins _ _ hm
    · obtain ⟨rfl, rfl⟩ : p' = q ∧ L' = L ++ [s] := by simpa using hm
      exact segO_in hg hr (h.ins _ _ hmi) hq
  · rw [hmap, List.nodup_append]
    refine ⟨h.nod, by simp, fun a ha b hb e => ?_⟩
    obtain rfl : b = q := by simpa using hb
    exact hnew (e ▸ ha)
  · intro p' L' hm M hM
    rcases List.mem_append.1 hm with hm | hm
    · exact h.min _ _ hm M hM
    · obtain ⟨rfl, rfl⟩ : p' = q ∧ L' = L ++ [s] := by simpa using hm
      obtain ⟨B, C, s', r, u, he, h1, h2, h3, h4⟩ := h.leaves M [] (startS x) _ rfl h0 hM hnew
      rw [List.nil_append] at h1
      obtain ⟨k1, k2, k3⟩ := h.out hi hd h1 h2 h3 h4
      subst he
      have hlen : (B ++ [s']).length ≤ (B ++ s' :: C).length := by simp
      have hsl : slLe N (L ++ [s]) (B ++ [s']) := by
        by_cases hrp : r = p
        · refine slLe_snoc k1 ?_
          have := k2 hrp
          rcases Nat.lt_or_ge (sgN N s) (sgN N s') with hlt | hge
          · exact .inl hlt
          · exact .inr (sgN_inj (segO_mem hr hq) (segO_mem hr h3) (by omega))
        · exact slLe_strict k1 (k3 hrp)
      cases C with
      | nil => exact hsl
      | cons c C =>
        have := slLe_len hsl
        refine .inl ?_
        simp only [List.length_append, List.length_cons, List.length_nil] at this ⊢
        omega
  · rw [List.pairwise_append]
    refine ⟨h.srt, by simp, fun a ha b hb => ?_⟩
    obtain rfl : b = (q, L ++ [s]) := by simpa using hb
    exact h.top _ _ hi a ha s (by omega)
  · intro j p' L' hj hD hl s' q' hs'
    rw [hmap]
    rw [List.getElem?_append_left (by omega)] at hD
    exact List.mem_append_left _ (h.don j p' L' hj hD hl s' q' hs')
  · intro p' L' hD s' q' hs' hq'
    rw [hi'] at hD
    injection hD with hD
    injection hD with e1 e2
    subst e1 e2
    rw [hmap]
    rcases Nat.lt_or_ge (sgN N s') t with hlt | hge
    · exact List.mem_append_left _ (h.now _ _ hi s' q' hlt hq')
    · have : s' = s := sgN_inj (segO_mem hr hq') (segO_mem hr hq) (by omega)
      subst this
      rw [hq] at hq'
      injection hq' with hq'
      subst hq'
      exact List.mem_append_right _ (List.mem_singleton.2 rfl)
  · intro p' L' hD a ha s' hs'
    rw [hi'] at hD
    injection hD with hD
    injection hD with e1 e2
    subst e1 e2
    rcases List.mem_append.1 ha with ha | ha
    · exact h.top _ _ hi a ha s' (by omega)
    · obtain rfl : a = (q, L ++ [s]) := by simpa using ha
      exact slLe_snoc (slLe_refl _) (.inl (by omega))
theorem BInv.next {d : Nat} {D : List ((Int × Int) × List Sg)} {i t : Nat} (hr : rightS N l x = 0) (h : BInv N l x gn d D i t) {p : Int × Int} {L : List Sg} (hi : D[i]? = some (p, L)) (hfin : L.length < d → N + 2 * l.length ≤ t) : BInv N l x gn d D (i + 1) 0 :=
  { h with
    don := fun j p' L' hj hD hl s q hq => by
      rcases Nat.lt_or_ge j i with hlt | hge
      · exact h.don j p' L' hlt hD hl s q hq
      · obtain rfl : j = i := by omega
        rw [hi] at hD
        injection hD with hD
        injection hD with e1 e2
        subst e1 e2
        have := sgN_lt (segO_mem hr hq)
        have := hfin hl
        exact h.now _ _ hi s q (by omega) hq
    now := fun p' L' _ s q hs _ => absurd hs (Nat.not_lt_zero _)
    top := fun p' L' hi1 a ha s _ => by
      have hle : slLe N L L' := by
        have := List.pairwise_iff_getElem.1 h.srt i (i + 1) (List.getElem?_eq_some_iff.1 hi).1 (List.getElem?_eq_some_iff.1 hi1).1 (Nat.lt_succ_self _)
        rw [(List.getElem?_eq_some_iff.1 hi).2, (List.getElem?_eq_some_iff.1 hi1).2] at this
        exact this
      have hmi := List.mem_of_getElem? hi
      have hmi1 := List.mem_of_getElem? hi1
      rcases Nat.lt_or_ge L.length d with hl | hl
      · have hne : L ≠ L' := by
          intro e
          have h1 := h.run _ _ hmi
          have h2 := h.run _ _ hmi1
          rw [e, h2] at h1
          injection h1 with h1
          have hn := List.pairwise_iff_getElem.1 h.nod i (i + 1) (by rw [List.length_map]; exact (List.getElem?_eq_some_iff.1 hi).1) (by rw [List.length_map]; exact (List.getElem?_eq_some_iff.1 hi1).1) (Nat.lt_succ_self _)
          simp only [List.getElem_map, (List.getElem?_eq_some_iff.1 hi1).2, (List.getElem?_eq_some_iff.1 hi).2] at hn
          exact hn h1.symm
        have h1 := h.top _ _ hi a ha ⟨true, (t : Int)⟩ (by simp only [sgN, if_true]; omega)
        exact slLe_trans h1 (slLe_strict hle hne)
      · have h1 := h.few a.1 a.2 ha
        have h2 := slLe_len hle
        exact .inl (by rw [List.length_append, List.length_singleton]; omega) }
theorem BInv.found (hr : rightS N l x = 0) {d : Nat} {D : List ((Int × Int) × List Sg)} {i t : Nat} (h : BInv N l x gn d D i t) {L : List Sg} (hi : D[i]? = some (goalS x, L)) : leastS N l x gn d (startS x) = some L.length ∧ pathS N l x gn L.length (startS x) = L := by
  have hm := List.mem_of_getElem? hi
  have hrun := h.run _ _ hm
  have hcan := run_can hr L _ hrun
  constructor
  · refine leastS_is (h.few _ _ hm) hcan (fun m hlt => ?_)
    cases hc : canS N l x gn m (startS x) with
    | false => rfl
    | true =>
      have h1 := slLe_len (h.min _ _ hm _ (path_runC m _ hc))
      rw [pathS_len hc] at h1
      omega
  · have h1 := h.min _ _ hm _ (path_runC _ _ hcan)
    have h2 := path_min hr _ _ L hcan rfl hrun
    rcases h1 with h1 | ⟨_, h1⟩
    · rw [pathS_len hcan] at h1; omega
    · exact lexLe_anti h2 h1
theorem BInv.none {d : Nat} {D : List ((Int × Int) × List Sg)} {i t : Nat} (h : BInv N l x gn d D i t) (hi : D.length ≤ i) (hno : ∀ p L, (p, L) ∈ D → p ≠ goalS x) : leastS N l x gn d (startS x) = none := by
  cases hl : leastS N l x gn d (startS x) with
  | none => rfl
  | some n =>
    obtain ⟨h1, h2, -⟩ := leastS_some hl
    have h0 : startS x ∈ D.map (·.1) := List.mem_map.2 ⟨_, List.mem_of_getElem? h.hd, rfl⟩
    have hng : goalS x ∉ D.map (·.1) := by
      intro hm
      obtain ⟨⟨p, L⟩, hm, rfl⟩ := List.mem_map.1 hm
      exact hno _ _ hm rfl
    obtain ⟨B, C, s, r, u, he, k1, k2, k3, k4⟩ := h.leaves (pathS N l x gn n (startS x)) [] (startS x) _ rfl h0 (path_runC n _ h2) hng
    rw [List.nil_append] at k1
    obtain ⟨⟨r', L⟩, hm, rfl⟩ := List.mem_map.1 k2
    obtain ⟨j, hj⟩ := List.mem_iff_getElem?.1 hm
    have hle := slLe_len (h.min _ _ hm _ k1)
    have hlen := congrArg List.length he
    rw [pathS_len h2, List.length_append, List.length_cons] at hlen
    have hjl := (List.getElem?_eq_some_iff.1 hj).1
    exact (k4 (h.don j _ _ (by omega) hj (by omega) s u k3)).elim
theorem BInv.le {d : Nat} {D : List ((Int × Int) × List Sg)} {i t : Nat} (h : BInv N l x gn d D i t) (hN : N ≤ 10) (hv : x.via.length ≤ 4) : D.length ≤ 60 := by
  have := states_le hN hv h.nod (fun p hp => by
    obtain ⟨⟨p', L⟩, hm, rfl⟩ := List.mem_map.1 hp
    exact h.ins _ _ hm)
  rwa [List.length_map] at this
end
end Go.Proofs.Ytkemcgbedapkcaa
