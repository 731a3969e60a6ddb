/- Which rules count at a node, in order, plainly. -/
import Derived.Test.YthoblabimkfjpaaSoA
namespace Go.Proofs.Ythoblabimkfjpaa
open Go.RowKit
set_option maxHeartbeats 6400000
set_option maxRecDepth 100000
/-- How far a rule of priority p stands in, counted down from k. -/
def downK (out : List (Rul × WSl)) (p : Int) : Nat → Nat
  | 0 => 0
  | k + 1 => match out[k]? with
    | some q => if q.1.pri < p then downK out p k else k + 1
    | none => k + 1
def insQ (out : List (Rul × WSl)) (q : Rul × WSl) : List (Rul × WSl) := out.take (downK out q.1.pri out.length) ++ [q] ++ out.drop (downK out q.1.pri out.length)
/-- Those of a node, in order. -/
def atQ (node : Int) (qs : List (Rul × WSl)) : List (Rul × WSl) := (qs.filter fun q => decide (q.1.x.frm = node)).foldl insQ []
theorem downK_le (out : List (Rul × WSl)) (p : Int) : ∀ k, downK out p k ≤ k := by
  intro k
  induction k with
  | zero => exact Nat.le_refl _
  | succ k ih =>
    unfold downK
    split
    · split
      · omega
      · exact Nat.le_refl _
    · exact Nat.le_refl _
theorem downK_on {out : List (Rul × WSl)} {p : Int} {k : Nat} {q : Rul × WSl} (h : out[k]? = some q) (hp : q.1.pri < p) : downK out p (k + 1) = downK out p k := by
  conv => lhs; unfold downK
  rw [h]
  simp only
  rw [if_pos hp]
theorem downK_off {out : List (Rul × WSl)} {p : Int} {k : Nat} {q : Rul × WSl} (h : out[k]? = some q) (hp : ¬q.1.pri < p) : downK out p (k + 1) = k + 1 := by
  unfold downK
  rw [h]
  simp only
  rw [if_neg hp]
theorem insQ_len (out : List (Rul × WSl)) (q : Rul × WSl) : (insQ out q).length = out.length + 1 := by
  have := downK_le out q.1.pri out.length
  unfold insQ
  simp only [List.length_append, List.length_take, List.length_drop, List.length_cons, List.length_nil]
  omega
theorem insQ_perm (out : List (Rul × WSl)) (q : Rul × WSl) : (insQ out q).Perm (q :: out) := by
  unfold insQ
  obtain ⟨k, hk⟩ : ∃ k, downK out q.1.pri out.length = k := ⟨_, rfl⟩
  rw [hk]
  have h1 : (out.take k ++ [q] ++ out.drop k).Perm ([q] ++ out.take k ++ out.drop k) := List.Perm.append_right _ List.perm_append_comm
  refine h1.trans ?_
  rw [List.append_assoc, List.take_append_drop]
  exact List.Perm.refl _
theorem atQ_snoc (node : Int) (qs : List (Rul × WSl)) (q : Rul × WSl) : atQ node (qs ++ [q]) = if q.1.x.frm = node then insQ (atQ node qs) q else atQ node qs := by
  unfold atQ
  rw [List.filter_append, List.foldl_append]
  by_cases h : q.1.x.frm = node
  · rw [if_pos h, List.filter_cons_of_pos (by simpa using h)]; rfl
  · rw [if_neg h, List.filter_cons_of_neg (by simpa using h)]; rfl
theorem foldl_perm : ∀ (L out : List (Rul × WSl)), (L.foldl insQ out).Perm (out ++ L) := by
  intro L
  induction L with
  | nil => intro out; rw [List.append_nil]; exact List.Perm.refl _
  | cons q L ih =>
    intro out
    refine (ih _).trans ?_
    refine (List.Perm.append_right _ (insQ_perm out q)).trans ?_
    show (q :: (out ++ L)).Perm (out ++ q :: L)
    exact List.perm_middle.symm
theorem atQ_perm (node : Int) (qs : List (Rul × WSl)) : (atQ node qs).Perm (qs.filter fun q => decide (q.1.x.frm = node)) := foldl_perm _ []
theorem atQ_mem {node : Int} {qs : List (Rul × WSl)} {q : Rul × WSl} (h : q ∈ atQ node qs) : q ∈ qs ∧ q.1.x.frm = node := by
  have := List.mem_filter.1 ((atQ_perm node qs).mem_iff.1 h)
  exact ⟨this.1, by simpa using this.2⟩
theorem atQ_len (node : Int) (qs : List (Rul × WSl)) : (atQ node qs).length ≤ qs.length := by
  rw [(atQ_perm node qs).length_eq]
  exact List.length_filter_le _ _
/-- The same on rules alone. -/
def downR (out : List Rul) (p : Int) : Nat → Nat
  | 0 => 0
  | k + 1 => match out[k]? with
    | some q => if q.pri < p then downR out p k else k + 1
    | none => k + 1
def insR (out : List Rul) (q : Rul) : List Rul := out.take (downR out q.pri out.length) ++ [q] ++ out.drop (downR out q.pri out.length)
def atS (node : Int) (rs : List Rul) : List Rul := (rs.filter fun q => decide (q.x.frm = node)).foldl insR []
theorem downK_map (out : List (Rul × WSl)) (p : Int) : ∀ k, downK out p k = downR (out.map (·.1)) p k := by
  intro k
  induction k with
  | zero => rfl
  | succ k ih =>
    unfold downK downR
    rw [List.getElem?_map]
    cases h : out[k]? with
    | none => rfl
    | some q => simp only [Option.map_some]; rw [ih]
theorem insQ_map (out : List (Rul × WSl)) (q : Rul × WSl) : (insQ out q).map (·.1) = insR (out.map (·.1)) q.1 := by
  unfold insQ insR
  rw [List.map_append, List.map_append, List.map_take, List.map_drop, downK_map, List.length_map]
  rfl
theorem atQ_map (node : Int) (qs : List (Rul × WSl)) : (atQ node qs).map (·.1) = atS node (qs.map (·.1)) := by
  unfold atQ atS
  rw [List.filter_map]
  have key : ∀ (L out : List (Rul × WSl)), (L.foldl insQ out).map (·.1) = (L.map (·.1)).foldl insR (out.map (·.1)) := by
    intro L
    induction L with
    | nil => intro out; rfl
    | cons q L ih => intro out; show ((L.foldl insQ (insQ out q))).map (·.1) = _; rw [ih, insQ_map]; rfl
  rw [key]
  rfl
/-- Sorted by priority. -/
def SortR (L : List Rul) : Prop := L.Pairwise fun a b => b.pri ≤ a.pri
end Go.Proofs.Ythoblabimkfjpaa
