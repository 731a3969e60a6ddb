/- PolicyClauses: plain words, rows. -/
import Derived.Test.YtcmkcloapenpnaaDoorPlU
import Derived.Test.YtcmkcloapenpnaaDoorPlQ
namespace Go.Proofs.YtcmkcloapenpnaaDoor
open Go.RowKit
set_option maxHeartbeats 6400000
set_option maxRecDepth 100000
theorem nodup_len : ∀ (ks L : List Nat), ks.Nodup → (∀ x ∈ ks, x ∈ L) → ks.length ≤ L.length := by
  intro ks
  induction ks with
  | nil => intro L _ _; exact Nat.zero_le _
  | cons k ks ih =>
    intro L hn h
    rw [List.nodup_cons] at hn
    have hk := h k (by simp)
    have := ih (L.erase k) hn.2 fun x hx => (List.mem_erase_of_ne (fun e => hn.1 (by rw [← e]; exact hx))).2 (h x (by simp [hx]))
    rw [List.length_erase_of_mem hk] at this
    have := List.length_pos_of_mem hk
    rw [List.length_cons]
    omega
theorem perm_same : ∀ (L ks : List Nat), L.Nodup → ks.Nodup → (∀ x, x ∈ L ↔ x ∈ ks) → L.Perm ks := by
  intro L
  induction L with
  | nil =>
    intro ks _ _ h
    cases ks with
    | nil => exact List.Perm.refl _
    | cons k ks => exact absurd ((h k).2 (by simp)) (by simp)
  | cons x L ih =>
    intro ks hL hk h
    rw [List.nodup_cons] at hL
    have hx : x ∈ ks := (h x).1 (by simp)
    refine List.Perm.trans (List.Perm.cons x (ih (ks.erase x) hL.2 (hk.erase x) fun y => ?_)) (List.perm_cons_erase hx).symm
    rw [hk.mem_erase_iff]
    constructor
    · intro hy
      exact ⟨fun e => hL.1 (by rw [← e]; exact hy), (h y).1 (by simp [hy])⟩
    · rintro ⟨h1, h2⟩
      have := (h y).2 h2
      rcases List.mem_cons.1 this with h3 | h3
      · exact absurd h3 h1
      · exact h3
/-- Fewer than all: one is free. -/
theorem one_free {ks : List Nat} (h : ks.length < 13) : ∃ j, j < 13 ∧ j ∉ ks := by
  refine Classical.byContradiction fun hn => ?_
  have := nodup_len (List.range 13) ks List.nodup_range fun x hx => Classical.byContradiction fun h2 => hn ⟨x, List.mem_range.1 hx, h2⟩
  rw [List.length_range] at this
  omega
theorem all_perm {ks : List Nat} (hl : ks.length = 13) (hn : ks.Nodup) (hlt : ∀ k ∈ ks, k < 13) : ks.Perm (List.range 13) := by
  refine perm_same _ _ hn List.nodup_range fun x => ⟨fun h => List.mem_range.2 (hlt x h), fun h => ?_⟩
  refine Classical.byContradiction fun h2 => ?_
  have := nodup_len (x :: ks) (List.range 13) (List.nodup_cons.2 ⟨h2, hn⟩) fun y hy => by
    rcases List.mem_cons.1 hy with rfl | hy
    · exact h
    · exact List.mem_range.2 (hlt y hy)
  rw [List.length_range, List.length_cons] at this
  omega
def bitB (X k : Nat) : Bool := X / 2 ^ k % 2 == 1
def incB (X k : Nat) : Bool := decide (11 ≤ k) || bitB X k
theorem inc_perm {X : Nat} {ks : List Nat} (h : ks.Perm (List.range 13)) : (ks.filter (incB X)).Perm (ksB (bitB X)) := by
  refine (h.filter _).trans ?_
  have e : List.range 13 = List.range 11 ++ [11, 12] := rfl
  rw [e, List.filter_append]
  have e1 : [11, 12].filter (incB X) = [11, 12] := by simp [incB]
  have e2 : (List.range 11).filter (incB X) = (List.range 11).filter (bitB X) := List.filter_congr fun k hk => by
    have := List.mem_range.1 hk
    unfold incB
    rw [show decide (11 ≤ k) = false by simp; omega, Bool.false_or]
  rw [e1, e2]
  exact List.perm_append_comm
/-- A clause's text, without the blank. -/
def cwK (k : Nat) : List UInt8 := (txK k).drop 1
theorem cwK_eq : ∀ k, k < 13 → [32] ++ cwK k = txK k := by decide
def tx13c : List (List UInt8) := (List.range 13).map cwK
theorem txK_len : ∀ k, k < 13 → (txK k).length ≤ 20 := by decide
theorem flat_len {ks : List Nat} (h : ∀ k ∈ ks, k < 13) : (ks.flatMap txK).length ≤ ks.length * 20 := by
  induction ks with
  | nil => exact Nat.le_refl _
  | cons k ks ih =>
    have h1 := txK_len k (h k (by simp))
    have h2 := ih fun j hj => h j (by simp [hj])
    rw [List.flatMap_cons, List.length_append, List.length_cons]
    omega
theorem filter_snoc (p : Nat → Bool) (ks : List Nat) (k : Nat) : ((ks ++ [k]).filter p).flatMap txK = (ks.filter p).flatMap txK ++ if p k then txK k else [] := by
  rw [List.filter_append, List.flatMap_append]
  congr 1
  cases h : p k with
  | true => rw [List.filter_cons_of_pos h]; simp
  | false => rw [List.filter_cons_of_neg (by rw [h]; decide)]; rfl
theorem range_snoc (p : Nat → Bool) (i : Nat) : ((List.range (i + 1)).filter p).flatMap txK = ((List.range i).filter p).flatMap txK ++ if p i then txK i else [] := by
  rw [List.range_succ, filter_snoc]
/-- The rows that the law makes. -/
def bro (H : Nat → Bool) : Array Value := ((List.range 13).map fun i => Value.bool (H i)).toArray
theorem mk_bools13 (W : World) : (Instr.makeSlice 39 (.int .i64 13) (.int .i64 13)).run Tryd.prog W = .ok (.slice (some ⟨W.heap.size, 0, none⟩) 13 13) (W.alloc (.cells (bro fun _ => false) 4)) := by
  obtain ⟨i5, hi, hz0, hz1, hz2⟩ := info_parts (show (Tryd.prog.info? 4).map (fun i => (i.zero, i.size, i.bytes)) = some (some (.bool false), 1, 1) by kernel_rfl)
  have h := run_make (P := Tryd.prog) W 39 4 i5 (.bool false) Tryd.underlying39 hi hz0 .i64 .i64 13 13 (by omega) (Int.le_refl _) (by rw [hz2]; omega) (by omega)
  rw [hz1, show Int.toNat 13 = 13 from rfl] at h
  have hz : madeCells (Value.bool false).cells (13 * 1) = bro fun _ => false := by
    rw [← Array.toArray_toList (xs := madeCells _ _), Nat.mul_one, show (Value.bool false).cells = #[Value.bool false] from rfl, toList_madeCells_one]
    rfl
  rw [h, hz]
theorem bro_row (w : World) (H : Nat → Bool) : BRow (w.alloc (.cells (bro H) 4)) w.heap.size 13 H :=
  ⟨_, heap_alloc_new w _, by simp [bro], fun e he => by simp [bro, he]⟩
theorem mark_ks (ks : List Nat) (b : Nat) : (fun j => if j = b then true else decide (j ∈ ks)) = fun v => decide (v ∈ ks ++ [b]) := by
  funext v
  by_cases h : v = b
  · simp [h]
  · simp [h]
end Go.Proofs.YtcmkcloapenpnaaDoor
