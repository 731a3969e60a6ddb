/- heap: the document's example. -/
import Derived.Test.YtmnlbefmgolciaaHpD
namespace Go.Proofs.Ytmnlbefmgolciaa
open Go.RowKit
set_option maxHeartbeats 3200000
set_option maxRecDepth 100000
/-- A new heap. -/
theorem heap_new (w : World) : HeapAt (w.alloc (.cells #[.pointer none] 27)) w.heap.size .nil := ⟨heap_alloc_new w _, trivial, trivial⟩
theorem gb_below {w w' : World} {B hb : Nat} (h : w.grownBy w' (some hb)) (hB : B ≤ hb) (hs : B ≤ w.heap.size) : Below B w w' := Below.grown (Below.refl _ _) h hs (fun k hk => by simp at hk; omega)
theorem top_of {T : HT} {l : List (Int × Int)} (h : T.all.Perm l) (hl : 0 < l.length) : ∃ b k v m f, T = .node b k v m f := by
  cases T with
  | nil => have := h.length_eq; simp [HT.all] at this; omega
  | node b k v m f => exact ⟨b, k, v, m, f, rfl⟩
theorem top_one {b : Nat} {k v x y : Int} {m f : HT} (h : (HT.node b k v m f).all.Perm [(x, y)]) : k = x ∧ v = y ∧ m.all ++ f.all = [] := by
  have := List.perm_singleton.1 h
  simp only [HT.all, List.cons.injEq, Prod.mk.injEq] at this
  exact ⟨this.1.1, this.1.2, this.2⟩
theorem cnt_zero {T : HT} (h : T.all.Perm []) : T.cnt = 0 := by simpa using perm_cnt h
theorem push_one {hb : Nat} {w w' : World} {e : Ending} (h : PushAns hb 3 4 .nil w e w') : e = .returned (.tuple #[]) ∧ ∃ b m f, HeapAt w' hb (.node b 3 4 m f) ∧ m.all ++ f.all = [] ∧ (HT.node b 3 4 m f).cnt ≤ 900000 ∧ w.grownBy w' (some hb) := by
  obtain ⟨he, T, hT, pT, hg⟩ := h
  obtain ⟨b, k, v, m, f, rfl⟩ := top_of pT (by simp)
  have pT' : (HT.node b k v m f).all.Perm [(3, 4)] := pT
  obtain ⟨rfl, rfl, hmf⟩ := top_one pT'
  exact ⟨he, b, m, f, hT, hmf, by have := perm_cnt pT'; simp at this; omega, hg⟩
theorem pop_last {hb : Nat} {k v : Int} {m f : HT} {w w' : World} {e : Ending} (hmf : m.all ++ f.all = []) (h : PopAns hb k v m f w e w') : e = .returned (.tuple #[.int .i64 k, .int .i64 v, .bool true]) ∧ w.grownBy w' (some hb) ∧
    Calls Try.prog 8 #[.pointer (some ⟨hb, 0, none⟩)] w' fun e w2 => e = .returned (.int .i64 0) ∧ w' = w2 := by
  obtain ⟨he, T, hT, pT, hg⟩ := h
  rw [hmf] at pT
  have h := len_any hb T w' hT
  rw [cnt_zero pT] at h
  exact ⟨he, hg, h⟩
theorem alive_any (w : World) : Calls Try.prog 5 #[] w fun e w' => e = .returned (.bool true) ∧ Below w.heap.size w w' := by
  have h0 := heap_new w
  have HL : Hid (Calls Try.prog 8 #[.pointer (some ⟨w.heap.size, 0, none⟩)] (w.alloc (.cells #[.pointer none] 27)) fun e w' => e = .returned (.int .i64 0) ∧ w.alloc (.cells #[.pointer none] 27) = w') := hid (len_any w.heap.size .nil _ h0)
  have HP := hid (push_any w.heap.size 3 4 .nil _ h0 (by simp [HT.cnt]))
  clear h0
  have hb0 : Below w.heap.size w (w.alloc (.cells #[.pointer none] 27)) := (Below.refl _ _).alloc (Nat.le_refl _) _
  go_enter Try.func5, Try.ntmps5
  go_wp2_with (first
    | (go_at_call 8; (with_reducible refine HL4.out.mono ?_); rintro e' w1 ⟨rfl, rfl⟩)
    | (go_at_call 8; (with_reducible refine HL.out.mono ?_); rintro e' w1 ⟨rfl, rfl⟩)
    | (go_at_call 6; (with_reducible refine HP.out.mono ?_); intro e' w2 hP; obtain ⟨rfl, b, m, f, hT, hmf, hc, hg2⟩ := push_one hP; have HPo := hid (pop_some w.heap.size b 3 4 m f w2 hT hc); have Hmf := hid hmf; have hb2 := hb0.trans (gb_below hg2 (Nat.le_refl _) hb0.size); clear hP hT hg2 hmf)
    | (go_at_call 7; (with_reducible refine HPo.out.mono ?_); intro e' w3 hP; obtain ⟨rfl, hg3, HL3⟩ := pop_last Hmf.out hP; have HL4 := hid HL3; have hb3 := hb2.trans (gb_below hg3 (Nat.le_refl _) hb2.size); clear hP HL3 hg3))
  go_ret
  exact ⟨rfl, hb3⟩
end Go.Proofs.Ytmnlbefmgolciaa
