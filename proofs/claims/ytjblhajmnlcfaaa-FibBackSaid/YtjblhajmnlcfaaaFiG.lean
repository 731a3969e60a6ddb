/- A list of a graph's segments is what its stack says, plainly. -/
import Derived.Test.YtjblhajmnlcfaaaFiE
namespace Go.Proofs.Ytjblhajmnlcfaaa
open Go.RowKit
set_option maxHeartbeats 6400000
set_option maxRecDepth 100000
def SgOk (nd : Int) (n : Nat) (s : Sg) : Prop := 0 ≤ s.too ∧ (s.edge = true → s.too < 2 * n) ∧ (s.edge = false → s.too < nd)
theorem label_back {nd : Int} {n : Nat} {s : Sg} (h : SgOk nd n s) (h1 : nd ≤ 40) (h2 : n ≤ 120) : 0 ≤ labelS s ∧ segOf 0 nd n (labelS s) = some s := by
  obtain ⟨se, st⟩ := s
  obtain ⟨a, b, c⟩ := h
  dsimp only at a b c
  cases se with
  | true =>
    have := b rfl
    have hl : labelS ⟨true, st⟩ = 24000 + st := by unfold labelS; rw [if_neg (by simp; omega), if_pos rfl]
    rw [hl]
    refine ⟨by omega, ?_⟩
    unfold segOf
    rw [if_neg (by decide), if_neg (by omega), if_pos (by omega)]
    simp only [Option.some.injEq, Sg.mk.injEq, true_and]; omega
  | false =>
    have := c rfl
    have hl : labelS ⟨false, st⟩ = 16000 + st := by unfold labelS; rw [if_neg (by simp; omega), if_neg (by simp)]
    rw [hl]
    refine ⟨by omega, ?_⟩
    unfold segOf
    rw [if_neg (by decide), if_pos (by omega)]
    simp only [Option.some.injEq, Sg.mk.injEq, true_and]; omega
theorem stack_back {nd : Int} {n : Nat} {L : List Sg} {ttl : Int} (h : ∀ s ∈ L, SgOk nd n s) (h1 : nd ≤ 40) (h2 : n ≤ 120) : (stackS L ttl).length = L.length ∧ segsS (segOf 0 nd n) (stackS L ttl) = some L := by
  have hs : stackS L ttl = entsUp L ttl L.length := stack_good fun i s hi => (label_back (h s (List.mem_of_getElem? hi)) h1 h2).1
  rw [hs]
  refine ⟨entsUp_len _ _ _, ?_⟩
  have hat : ∀ (i : Nat) (e : En), (entsUp L ttl L.length)[i]? = some e → ∃ s, L[i]? = some s ∧ e.lab = labelS s := by
    intro i e he
    have hi : i < L.length := by have := (List.getElem?_eq_some_iff.1 he).1; rwa [entsUp_len] at this
    unfold entsUp at he
    rw [List.getElem?_map, List.getElem?_range hi] at he
    simp only [Option.map_some, Option.some.injEq] at he
    refine ⟨L[i], List.getElem?_eq_getElem hi, ?_⟩
    rw [← he]
    show labelS (L.getD i noSg) = _
    rw [List.getD_eq_getElem?_getD, List.getElem?_eq_getElem hi]; rfl
  rw [segs_good (f := segOf 0 nd n) fun i e he => by
    obtain ⟨s, hs1, hs2⟩ := hat i e he
    rw [hs2, (label_back (h s (List.mem_of_getElem? hs1)) h1 h2).2]; rfl]
  congr 1
  apply List.ext_getElem?
  intro i
  rw [List.getElem?_map]
  rcases Nat.lt_or_ge i L.length with hi | hi
  · obtain ⟨e, he⟩ : ∃ e, (entsUp L ttl L.length)[i]? = some e := ⟨_, List.getElem?_eq_getElem (by rw [entsUp_len]; exact hi)⟩
    obtain ⟨s, hs1, hs2⟩ := hat i e he
    rw [he, hs1, Option.map_some, hs2, (label_back (h s (List.mem_of_getElem? hs1)) h1 h2).2]; rfl
  · rw [List.getElem?_eq_none hi, List.getElem?_eq_none (by rw [entsUp_len]; exact hi)]; rfl
theorem stack_lab {nd : Int} {n : Nat} {L : List Sg} {ttl : Int} (h : ∀ s ∈ L, SgOk nd n s) (h1 : nd ≤ 40) (h2 : n ≤ 120) : ∀ e ∈ stackS L ttl, J64 e.lab := by
  have hs : stackS L ttl = entsUp L ttl L.length := stack_good fun i s hi => (label_back (h s (List.mem_of_getElem? hi)) h1 h2).1
  rw [hs]
  intro e he
  unfold entsUp at he
  obtain ⟨i, hi, rfl⟩ := List.mem_map.1 he
  show J64 (labelS (L.getD i noSg))
  rw [List.mem_range] at hi
  have := h L[i] (List.getElem_mem _)
  rw [List.getD_eq_getElem?_getD, List.getElem?_eq_getElem hi, Option.getD_some]
  obtain ⟨a, b, c⟩ := this
  unfold labelS J64
  cases hh : L[i].edge with
  | true => have := b hh; split <;> (try split) <;> omega
  | false => have := c hh; split <;> (try split) <;> omega
def lkB : Lnk := ⟨0, 1, 1, 0⟩
theorem chk_repB (nd : Int) (h1 : 2 ≤ nd) : ∀ (N i : Nat), (chk nd (List.replicate N lkB) i).2 = 0
  | 0, _ => rfl
  | N + 1, i => by
    rw [List.replicate_succ]
    unfold chk
    rw [if_pos (by unfold lnkErr lkB; simp; omega)]
    exact chk_repB nd h1 N _
theorem check_rep (nd : Int) (N : Nat) (h1 : 2 ≤ nd) (h2 : nd ≤ 40) (h3 : N ≤ 120) : (checkS nd (List.replicate N lkB)).2 = 0 := by
  unfold checkS
  rw [List.length_replicate, if_neg (by omega), if_neg (by omega)]
  exact chk_repB nd h1 N 0
/-- Segment number i of FibBack. -/
def pickS (nd lk p : Int) : Sg := if p % 2 = 1 then ⟨true, (p % 4096 / 2) % (2 * lk)⟩ else ⟨false, (p % 4096 / 2) % nd⟩
theorem pickS_ok {nd : Int} {N : Nat} {p : Int} (h1 : 2 ≤ nd) (h2 : 1 ≤ N) : SgOk nd N (pickS nd N p) := by
  unfold pickS
  have e1 : 0 ≤ p % 4096 / 2 := by omega
  have := Int.emod_nonneg (p % 4096 / 2) (show (2 * (N : Int)) ≠ 0 by omega)
  have := Int.emod_lt_of_pos (p % 4096 / 2) (show (0 : Int) < 2 * (N : Int) by omega)
  have := Int.emod_nonneg (p % 4096 / 2) (show nd ≠ 0 by omega)
  have := Int.emod_lt_of_pos (p % 4096 / 2) (show (0 : Int) < nd by omega)
  split
  · exact ⟨by assumption, fun _ => by assumption, fun h => (by cases h)⟩
  · exact ⟨by assumption, fun h => (by cases h), fun _ => by assumption⟩
end Go.Proofs.Ytjblhajmnlcfaaa
