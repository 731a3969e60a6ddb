/- 'x[:k]' of a slice that is not nil; rows of rules cut. -/
import Derived.Test.YthoblabimkfjpaaSoD
namespace Go.Proofs.Ythoblabimkfjpaa
open Go.RowKit
set_option maxHeartbeats 6400000
set_option maxRecDepth 100000
theorem run_upto {P : Program} {t e : TypeId} {i : TypeInfo} {size : Nat} (ht : P.underlying t = some (.slice e)) (hi : P.info? e = some i) (hs : i.size = size) (b off len cap k : Nat) (hk : k ≤ cap) (W : World) :
    (Instr.slice t (.slice (some ⟨b, off, none⟩) len cap) none (some (.int .i64 (k : Int))) none).run P W = .ok (.slice (some ⟨b, off, none⟩) k cap) W := by
  have he : P.elem t = e := by simp [Program.elem, ht]
  have ht' : P.underlying t = some (.slice (P.elem t)) := by rw [he]; exact ht
  have h2 := run_slice_h (P := P) (w := W) t (some ⟨b, off, none⟩) len cap ht' .i64 (k : Int) (by omega) (by omega)
  rw [h2, he]
  simp [sizeOf, typeInfo, hi, hs, sliced, go_sem]
theorem run_nil_upto {P : Program} {t e : TypeId} {i : TypeInfo} {size : Nat} (ht : P.underlying t = some (.slice e)) (hi : P.info? e = some i) (hs : i.size = size) (W : World) :
    (Instr.slice t (.slice none 0 0) none (some (.int .i64 0)) none).run P W = .ok (.slice none 0 0) W := by
  have he : P.elem t = e := by simp [Program.elem, ht]
  have ht' : P.underlying t = some (.slice (P.elem t)) := by rw [he]; exact ht
  have h2 := run_slice_h (P := P) (w := W) t none 0 0 ht' .i64 0 (by omega) (by omega)
  rw [h2, he]
  simp [sizeOf, typeInfo, hi, hs, sliced, go_sem]
theorem run_nil_from {P : Program} {t e : TypeId} {i : TypeInfo} {size : Nat} (ht : P.underlying t = some (.slice e)) (hi : P.info? e = some i) (hs : i.size = size) (W : World) :
    (Instr.slice t (.slice none 0 0) (some (.int .i64 0)) none none).run P W = .ok (.slice none 0 0) W := by
  have he : P.elem t = e := by simp [Program.elem, ht]
  have ht' : P.underlying t = some (.slice (P.elem t)) := by rw [he]; exact ht
  have h2 := run_slice_l (P := P) (w := W) t none 0 0 ht' .i64 0 (by omega) (by omega)
  rw [h2, he]
  simp [sizeOf, typeInfo, hi, hs, sliced, go_sem]
theorem rrow_take (qs : List (Rul × WSl)) (k : Nat) : rrow (qs.take k) = (rrow qs).take (k * 17) := by
  rcases Nat.lt_or_ge k qs.length with h | h
  · have e : rrow qs = rrow (qs.take k) ++ rrow (qs.drop k) := by rw [← rrow_app, List.take_append_drop]
    have hl : (rrow (qs.take k)).length = k * 17 := by rw [rrow_len, List.length_take]; omega
    conv => rhs; rw [e, ← hl, List.take_left]
  · rw [List.take_of_length_le h, List.take_of_length_le (by rw [rrow_len]; omega)]
theorem rrow_drop (qs : List (Rul × WSl)) (k : Nat) (hk : k ≤ qs.length) : rrow (qs.drop k) = (rrow qs).drop (k * 17) := by
  have e : rrow qs = rrow (qs.take k) ++ rrow (qs.drop k) := by rw [← rrow_app, List.take_append_drop]
  have hl : (rrow (qs.take k)).length = k * 17 := by rw [rrow_len, List.length_take]; omega
  rw [e, ← hl, List.drop_left]
theorem rrow_one (q : Rul × WSl) : rrow [q] = (rarr q.1 q.2).toList := by
  unfold rrow
  simp
theorem rrow_cells_one (qs : List (Rul × WSl)) : ∀ u ∈ rrow qs, u.oneCell' = true := by
  intro u hu
  unfold rrow at hu
  obtain ⟨q, _, hu⟩ := List.mem_flatMap.1 hu
  simp only [rarr, List.mem_cons, List.not_mem_nil, or_false] at hu
  rcases hu with rfl | rfl | rfl | rfl | rfl | rfl | rfl | rfl | rfl | rfl | rfl | rfl | rfl | rfl | rfl | rfl | rfl <;> rfl
end Go.Proofs.Ythoblabimkfjpaa
