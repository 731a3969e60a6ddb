import Derived.Test.YtihbpggoieieoaaJ
namespace Go.Proofs.Ytihbpggoieieoaa
open Go.RowKit
set_option maxHeartbeats 1600000
set_option maxRecDepth 100000

theorem num_any (n : Int) (w : World) : Calls Try.prog 12 #[.int .i64 n] w fun e w' => e = .returned (.int .i64 n) ∧ w = w' := by
  go_enter Try.func12, Try.ntmps12
  go_wp2
  go_ret
  exact ⟨rfl, rfl⟩
theorem get_nil (w : World) : Calls Try.prog 10 #[.slice none 0 0] w fun e w' => e = .returned (.tuple #[.slice none 0 0, .int .i64 2]) ∧ Below w.heap.size w w' := get_zero none 0 w
def e59 : Ent := ⟨5, 0, 9, true⟩
/-- A block of entries just made reads as them. -/
theorem new_ent {w : World} {l : List Ent} {cs : Array Value} (h : cs = (flat l).toArray) : REnt (w.alloc (.cells cs 38)) (w.alloc (.cells cs 38)).heap.size (some ⟨w.heap.size, 0, none⟩) l.length l := by
  refine ⟨rfl, fun _ => ⟨_, _, rfl, by simp, fun i e he => ?_⟩⟩
  have hc := new_row (w := w) (t := 38) h
  have k := fun j u (hj : j < 4) hu => by
    have := hc (i * 4 + j) u ((flat_at he j hj).trans hu)
    rwa [Go.WideShapes.add_plain] at this
  refine ⟨k 0 _ (by omega) rfl, ?_, ?_, ?_⟩
  · have := k 1 _ (by omega) rfl
    rwa [← Nat.add_assoc] at this
  · have := k 2 _ (by omega) rfl
    rwa [← Nat.add_assoc] at this
  · have := k 3 _ (by omega) rfl
    rwa [← Nat.add_assoc] at this
theorem putA_yes {l : List Ent} {v : Value} {w : World} (h : isStk l = true) (hc : Calls Try.prog 8 #[v] w (PutA l w)) :
    Calls Try.prog 8 #[v] w fun e w' => ∃ A c, e = .returned (.tuple #[.slice A (4 * l.length) c, .int .i64 0]) ∧ RByt w' w'.heap.size A (4 * l.length) (putB l) ∧ Below w.heap.size w w' := by
  refine hc.mono fun e w' ha => ?_
  rcases ha with ⟨_, v', he, ho, hb⟩ | ⟨h0, _⟩
  · have h1 : 1 ≤ l.length := by simp only [isStk, Bool.and_eq_true, decide_eq_true_eq] at h; omega
    obtain ⟨g, cap, rfl, _, hlt⟩ := ho.form (by omega)
    refine ⟨_, cap, he, ⟨putB_len l, fun _ => ⟨g, 0, rfl, hlt, fun i x hx => ?_⟩⟩, hb⟩
    have := ho.cells (g := g) rfl i (.int .u8 (x.toNat : Int)) (by simp [bcells, hx])
    rwa [Go.WideShapes.add_plain] at this
  · rw [h] at h0; cases h0
theorem putA_no {l : List Ent} {v : Value} {w : World} (h : isStk l = false) (hc : Calls Try.prog 8 #[v] w (PutA l w)) :
    Calls Try.prog 8 #[v] w fun e w' => e = .returned (.tuple #[.slice none 0 0, .int .i64 1]) ∧ Below w.heap.size w w' := by
  refine hc.mono fun e w' ha => ?_
  rcases ha with ⟨h0, _⟩ | ⟨_, he, hb⟩
  · rw [h] at h0; cases h0
  · exact ⟨he, hb⟩

theorem put_59 (w : World) : Calls Try.prog 8 #[.slice (some ⟨w.heap.size, 0, none⟩) 1 1] (w.alloc (.cells #[.int .i64 5, .int .i64 0, .int .i64 9, .bool true] 38))
    fun e w' => ∃ A c, e = .returned (.tuple #[.slice A 4 c, .int .i64 0]) ∧ Below w.heap.size w w' := by
  refine (putA_yes (l := [e59]) (by decide) (put_all _ 1 1 [e59] _ (new_ent (w := w) (l := [e59]) rfl))).mono fun e w' ⟨A, c, h1, _, h2⟩ => ⟨A, c, h1, ?_⟩
  exact ((Below.refl _ w).alloc (Nat.le_refl _) _).trans (h2.mono (by simp))
theorem alive_any (w : World) : Calls Try.prog 7 #[] w fun e w' => e = .returned (.bool true) ∧ Below w.heap.size w w' := by
  go_enter Try.func7, Try.ntmps7
  go_wp2_with (first
    | (go_at_call 10; (with_reducible refine (get_nil _).mono ?_); rintro e' w1 ⟨rfl, hb1⟩)
    | (go_at_call 8; (with_reducible refine (put_59 _).mono ?_); rintro e' w2 ⟨A, c, rfl, hb2⟩)
    | (go_at_call 12; (with_reducible refine (num_any _ _).mono ?_); rintro e' w3 ⟨rfl, rfl⟩))
  go_ret
  exact ⟨rfl, hb1.trans (hb2.mono hb1.size)⟩
end Go.Proofs.Ytihbpggoieieoaa
