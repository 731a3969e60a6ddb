/- What a stable sort of rules is, plainly; rows of rules in the sort's words. -/
import Derived.Test.YthoblabimkfjpaaSuG
import Derived.Test.YthoblabimkfjpaaSoR
namespace Go.Proofs.Ythoblabimkfjpaa
open Go.RowKit Go.Sort Go.Proofs
set_option maxHeartbeats 6400000
set_option maxRecDepth 1000000
def insT (out : List TQ) (q : TQ) : List TQ := out.take (downR (out.map (·.1.1)) q.1.1.pri out.length) ++ [q] ++ out.drop (downR (out.map (·.1.1)) q.1.1.pri out.length)
theorem insT_map (out : List TQ) (q : TQ) : (insT out q).map (·.1.1) = insR (out.map (·.1.1)) q.1.1 := by
  unfold insT insR
  rw [List.map_append, List.map_append, List.map_take, List.map_drop, List.length_map]
  rfl
theorem insT_perm (out : List TQ) (q : TQ) : (insT out q).Perm (q :: out) := by
  unfold insT
  obtain ⟨k, hk⟩ : ∃ k, downR (out.map (·.1.1)) q.1.1.pri out.length = k := ⟨_, rfl⟩
  rw [hk]
  have h1 : (out.take k ++ [q] ++ out.drop k).Perm ([q] ++ out.take k ++ out.drop k) := List.Perm.append_right _ List.perm_append_comm
  refine h1.trans ?_
  rw [List.append_assoc, List.take_append_drop]
  exact List.Perm.refl _
theorem foldT_map : ∀ (L out : List TQ), (L.foldl insT out).map (·.1.1) = (L.map (·.1.1)).foldl insR (out.map (·.1.1)) := by
  intro L
  induction L with
  | nil => intro out; rfl
  | cons q L ih => intro out; show (L.foldl insT (insT out q)).map (·.1.1) = _; rw [ih, insT_map]; rfl
theorem foldT_perm : ∀ (L out : List TQ), (L.foldl insT out).Perm (out ++ L) := by
  intro L
  induction L with
  | nil => intro out; rw [List.append_nil]; exact List.Perm.refl _
  | cons q L ih =>
    intro out
    refine (ih _).trans ?_
    refine (List.Perm.append_right _ (insT_perm out q)).trans ?_
    show (q :: (out ++ L)).Perm (out ++ q :: L)
    exact List.perm_middle.symm
theorem insT_sorted {out : List TQ} {q : TQ} (h : out.Pairwise (BfT prT tgT)) (hq : ∀ a ∈ out, tgT a < tgT q) : (insT out q).Pairwise (BfT prT tgT) := by
  obtain ⟨k, hk⟩ : ∃ k, downR (out.map (·.1.1)) q.1.1.pri out.length = k := ⟨_, rfl⟩
  have hkl := downR_le (out.map (·.1.1)) q.1.1.pri out.length
  obtain ⟨s1, s2⟩ := downR_spec (out.map (·.1.1)) q.1.1.pri out.length (by rw [List.length_map]; exact Nat.le_refl _)
  unfold insT
  rw [hk] at hkl s1 s2 ⊢
  have hp := h
  rw [← List.take_append_drop k out, List.pairwise_append] at hp
  obtain ⟨p1, p2, p3⟩ := hp
  have ht : ∀ a ∈ out.take k, BfT prT tgT a q := by
    intro a ha
    have hm := hq a (List.mem_of_mem_take ha)
    obtain ⟨i, hi, he⟩ := List.mem_iff_getElem.1 ha
    rw [List.length_take] at hi
    have hik : i < k := by omega
    have hlt : i < out.length := by omega
    rw [List.getElem_take] at he
    have hle : prT q ≤ prT a := by
      have hg : ∀ j (hj : j < out.length), (out.map (·.1.1))[j]? = some out[j].1.1 := fun j hj => by rw [List.getElem?_map, List.getElem?_eq_getElem hj]; rfl
      by_cases hi1 : i = k - 1
      · have := s2 _ (by omega) (by rw [← hi1]; exact hg i hlt)
        rw [he] at this
        exact this
      · have hb : BfT prT tgT out[i] out[k - 1] := List.pairwise_iff_getElem.1 h i (k - 1) hlt (by omega) (by omega)
        have := s2 _ (by omega) (hg (k - 1) (by omega))
        rw [he] at hb
        unfold BfT prT at *
        omega
    unfold BfT
    omega
  have hd : ∀ a ∈ out.drop k, BfT prT tgT q a := by
    intro a ha
    obtain ⟨i, hi, he⟩ := List.mem_iff_getElem.1 ha
    rw [List.length_drop] at hi
    rw [List.getElem_drop] at he
    have := s1 (k + i) a.1.1 (by omega) (by omega) (by rw [List.getElem?_map, List.getElem?_eq_getElem (by omega), he]; rfl)
    exact Or.inl this
  rw [List.append_assoc, List.pairwise_append]
  refine ⟨p1, ?_, ?_⟩
  · rw [List.singleton_append, List.pairwise_cons]
    exact ⟨hd, p2⟩
  · intro a ha b hb
    rw [List.singleton_append, List.mem_cons] at hb
    rcases hb with rfl | hb
    · exact ht a ha
    · exact p3 a ha b hb
theorem foldT_sorted : ∀ (L out : List TQ), out.Pairwise (BfT prT tgT) → L.Pairwise (fun a b => tgT a < tgT b) → (∀ a ∈ out, ∀ b ∈ L, tgT a < tgT b) → (L.foldl insT out).Pairwise (BfT prT tgT) := by
  intro L
  induction L with
  | nil => intro out h _ _; exact h
  | cons q L ih =>
    intro out h hL hx
    rw [List.pairwise_cons] at hL
    refine ih (insT out q) (insT_sorted h fun a ha => hx a ha q List.mem_cons_self) hL.2 fun a ha b hb => ?_
    rcases List.mem_cons.1 ((insT_perm out q).mem_iff.1 ha) with rfl | ha
    · exact hL.1 b hb
    · exact hx a ha b (List.mem_cons_of_mem _ hb)
/-- Sorted, and the same rules: it is the one that putting them in one by one tells. -/
theorem sorted_is {d d' : Array TQ} (hr : Ris tgT d 0 d.size) (hp : PermIn 0 d.size d d') (hs : SoT prT tgT d' 0 d.size) : d'.toList.map (·.1.1) = (d.toList.map (·.1.1)).foldl insR [] := by
  have hsz := hp.1
  have hP : d'.toList.Perm d.toList := by
    have := hp.2.2
    rw [Array.extract_size] at this
    rw [← hsz, Array.extract_size] at this
    exact this
  have pw : ∀ (D : Array TQ) (R : TQ → TQ → Prop), (∀ i j, i < j → j < D.size → R D[i]! D[j]!) → D.toList.Pairwise R := fun D R h => by
    rw [List.pairwise_iff_getElem]
    intro i j hi hj hij
    have h1 := h i j hij (by simpa using hj)
    rw [getElem!_pos D i (by simpa using hi), getElem!_pos D j (by simpa using hj)] at h1
    exact h1
  have q1 : d'.toList.Pairwise (BfT prT tgT) := pw d' _ fun i j hij hj => hs i j (Nat.zero_le _) hij (by omega)
  have q2 : d.toList.Pairwise (fun a b => tgT a < tgT b) := pw d _ fun i j hij hj => hr i j (Nat.zero_le _) hij hj
  have q3 := foldT_sorted d.toList [] List.Pairwise.nil q2 (fun a ha => by cases ha)
  have q4 := foldT_perm d.toList []
  have he : d'.toList = d.toList.foldl insT [] := List.Perm.eq_of_pairwise (le := BfT prT tgT) (fun a b _ _ h1 h2 => (h1.irr h2).elim) q1 q3 (hP.trans q4.symm)
  rw [he, foldT_map]
  rfl
/-! ### Rows of rules in the sort's words -/
/-- Each rule with its place. -/
def tagA (ps : List (Rul × WSl)) : Array TQ := ps.zipIdx.toArray
theorem tagA_size (ps : List (Rul × WSl)) : (tagA ps).size = ps.length := by simp [tagA]
theorem tagA_at {ps : List (Rul × WSl)} {i : Nat} {q : Rul × WSl} (h : ps[i]? = some q) : (tagA ps)[i]! = (q, i) := by
  obtain ⟨hi, he⟩ := List.getElem?_eq_some_iff.1 h
  rw [getElem!_pos _ i (by rw [tagA_size]; exact hi)]
  simp [tagA, he]
theorem tagA_ris (ps : List (Rul × WSl)) : Ris tgT (tagA ps) 0 (tagA ps).size := by
  intro i j _ hij hj
  rw [tagA_size] at hj
  rw [tagA_at (List.getElem?_eq_getElem (show i < ps.length by omega)), tagA_at (List.getElem?_eq_getElem hj)]
  exact hij
theorem tagA_map (ps : List (Rul × WSl)) : (tagA ps).toList.map (·.1.1) = ps.map (·.1) := by
  unfold tagA
  have h : (ps.zipIdx.toArray.toList).map (·.1.1) = (ps.zipIdx.map (·.1)).map (·.1) := by rw [List.map_map]; rfl
  rw [h, List.zipIdx_map_fst]
theorem holds_row {w : World} {base g c : Nat} {ps : List (Rul × WSl)} (h : w.ownsRow base 58 17 (.slice (some ⟨g, 0, none⟩) ps.length c) ps.length (rrow ps)) (h0 : 0 < ps.length) : HoldsK encT 17 w g 0 (tagA ps) ∧ base ≤ g ∧ ∃ cs, w.heap[g]? = some (.cells cs 58 (0, 0)) := by
  rcases h.2 with ⟨_, h2⟩ | ⟨g', cap, cur, he, hb, hg, _, _, _, ht⟩
  · omega
  · simp only [Value.slice.injEq, Option.some.injEq, Addr.mk.injEq, and_true] at he
    obtain ⟨rfl, -⟩ := he
    refine ⟨fun t htl => ?_, hb, cur, hg⟩
    rw [size_flatK, tagA_size] at htl
    have hi : t / 17 < ps.length := Nat.div_lt_of_lt_mul (by omega)
    obtain ⟨q, hq⟩ : ∃ q, ps[t / 17]? = some q := ⟨ps[t / 17], List.getElem?_eq_getElem hi⟩
    rw [get_flatK _ _ _ _ (by rw [tagA_size]; exact htl), tagA_at hq]
    have hm : t % 17 < (rarr q.1 q.2).size := by have := Nat.mod_lt t (show 0 < 17 by decide); simpa [rarr] using this
    obtain ⟨v, hv⟩ : ∃ v, (rarr q.1 q.2)[t % 17]? = some v := ⟨_, Array.getElem?_eq_getElem hm⟩
    have h5 := rrow_at hq hv
    rw [show t / 17 * 17 + t % 17 = t by have := Nat.div_add_mod t 17; omega] at h5
    rw [← ht, List.getElem?_take] at h5
    rw [if_pos htl] at h5
    have h6 : cur[t]? = some v := by simpa using h5
    refine ⟨?_, frozen_of_row _ _ _ _ _ hg⟩
    rw [cell_of_row _ _ _ _ _ _ hg, Nat.zero_add, h6]
    show some v = some (encT (q, t / 17))[t % 17]!
    unfold encT
    rw [List.getElem!_eq_getElem?_getD, Array.getElem?_toList, hv]
    rfl
theorem srt_other {w w' : World} {blk off b : Nat} {d : Array TQ} (h : Srt encT 17 w blk off d w') (hb : b < w.heap.size) (hne : b ≠ blk) : w'.heap[b]? = w.heap[b]? := by
  obtain ⟨q, os, rfl⟩ := h
  unfold sortWorldK grow putRowK putRow mapBlock
  simp only
  rw [Array.getElem?_append_left (by rw [Array.size_modify]; exact hb), Array.getElem?_modify, if_neg (fun e => hne e.symm)]
  rfl
theorem srt_below {w w' : World} {blk off B : Nat} {d : Array TQ} (h : Srt encT 17 w blk off d w') (hB : B ≤ blk) (hw : B ≤ w.heap.size) : Below B w w' := by
  have ho := fun k (hk : k < B) => srt_other h (b := k) (by omega) (by omega)
  obtain ⟨q, os, rfl⟩ := h
  refine ⟨rfl, rfl, rfl, ?_, ho⟩
  unfold sortWorldK
  rw [size_grow, size_putRowK]
  exact Nat.le_add_right _ _
end Go.Proofs.Ythoblabimkfjpaa
