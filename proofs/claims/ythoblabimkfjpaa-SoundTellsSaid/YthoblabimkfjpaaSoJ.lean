/- alive of law 14. -/
import Derived.Test.YthoblabimkfjpaaSoI
namespace Go.Proofs.Ythoblabimkfjpaa
open Go.RowKit
set_option maxHeartbeats 6400000
set_option maxRecDepth 100000
theorem larg0 (w : World) : LArg w none 0 0 [] := ⟨⟨rfl, fun h => by omega⟩, Nat.le_refl _, fun _ => ⟨rfl, rfl⟩, by unfold maxLen; omega, by simp⟩
def slN : WSl := ⟨none, 0, 0, none, 0, 0, none, 0, 0, none, 0, 0⟩
theorem warg0 (w : World) (x : Wnt) (h1 : x.via = []) (h2 : x.nds = []) (h3 : x.lks = []) (h4 : x.cls = []) (hb : -9223372036854775808 ≤ x.bnd ∧ x.bnd ≤ 9223372036854775807) : WArg w x slN :=
  ⟨by rw [h1]; exact larg0 w, by rw [h2]; exact larg0 w, by rw [h3]; exact larg0 w, by rw [h4]; exact larg0 w, hb⟩
/-- Rules just written into a block. -/
theorem rrul_lit (W : World) (qs : List (Rul × WSl)) (cs : Array Value) (m : Nat) (hm : qs.length = m) (hcs : cs = (rrow qs).toArray) (hw : ∀ q ∈ qs, WArg (W.alloc (.cells cs 58)) q.1.x q.2) :
    RRul (W.alloc (.cells cs 58)) (some ⟨W.heap.size, 0, none⟩) m m qs := by
  refine ⟨hm, Nat.le_refl _, fun h => (by cases h), fun _ => ⟨W.heap.size, 0, rfl, by rw [size_alloc_eq]; exact Nat.lt_succ_self _, fun i q j v hq hv => ?_⟩, hw⟩
  have h1 := new_row (w := W) (t := 58) hcs _ _ (rrow_at hq hv)
  rw [Go.WideShapes.add_plain] at h1
  rw [Nat.zero_add]
  rw [Nat.zero_add] at h1
  exact h1
theorem nil_rrul (w : World) : RRul w none 0 0 [] := ⟨rfl, Nat.le_refl _, fun _ => ⟨rfl, rfl⟩, fun h => by omega, fun q hq => (by cases hq)⟩
theorem nil_garg (w : World) (nd : Int) (h1 : -9223372036854775808 ≤ nd) (h2 : nd ≤ 9223372036854775807) : GArg w nd none 0 0 [] := ⟨⟨rfl, fun h => by omega⟩, by omega, by omega, fun _ => ⟨rfl, rfl⟩, h1, h2⟩
def rlA : Rul := { noRul with name := [97] }
def rlB : Rul := { noRul with name := [98], pri := 3 }
theorem rng_A : RRng rlA := ⟨by decide, by unfold I64; decide, by unfold I64; decide, by unfold I64; decide, by decide, by decide, by unfold I64; decide, by unfold I64; decide, by unfold I64; decide, by unfold I64; decide, by unfold I64; decide⟩
theorem rng_B : RRng rlB := ⟨by decide, by unfold I64; decide, by unfold I64; decide, by unfold I64; decide, by decide, by decide, by unfold I64; decide, by unfold I64; decide, by unfold I64; decide, by unfold I64; decide, by unfold I64; decide⟩
theorem alive14 (h : SoundSpec 16 20) (w : World) : Calls Try.prog 14 #[] w fun e w' => e = .returned (.bool true) ∧ Below w.heap.size w w' := by
  have H0 : Hid (∀ W : World, Calls Try.prog 16 #[.agg #[.int .i64 1, .slice none 0 0], .slice none 0 0] W fun e w' => e = .returned (.tuple #[.int .i64 (-1), .int .i64 0]) ∧ Below W.heap.size W w') := fun W =>
    h.check 1 none 0 0 [] none 0 0 [] W (nil_garg W 1 (by omega) (by omega)) (nil_rrul W) (by omega) (fun q hq => by cases hq) (fun q hq => by cases hq) (fun q hq => by cases hq)
  have H1 : Hid (∀ W : World, Calls Try.prog 20 #[.slice (some ⟨W.heap.size, 0, none⟩) 2 2, .int .i64 0] (W.alloc (.cells #[.string ⟨#[97]⟩, .int .i64 0, .int .u32 0, .int .i64 0, .int .u32 0, .int .i64 0, .int .i64 0, .int .i64 0, .int .i64 0, .int .i64 0, .int .i64 0, .int .i64 0, .slice none 0 0, .slice none 0 0, .slice none 0 0, .slice none 0 0, .bool false, .string ⟨#[98]⟩, .int .i64 3, .int .u32 0, .int .i64 0, .int .u32 0, .int .i64 0, .int .i64 0, .int .i64 0, .int .i64 0, .int .i64 0, .int .i64 0, .int .i64 0, .slice none 0 0, .slice none 0 0, .slice none 0 0, .slice none 0 0, .bool false] 58)) fun e w' => ∃ b off c, e = .returned (.slice (some ⟨b, off, none⟩) 2 c) ∧ w'.cell? ⟨b, off, none⟩ = some (.string (txt [98])) ∧ Below W.heap.size W w') := by
    intro W
    have hr := rrul_lit W [(rlA, slN), (rlB, slN)] #[.string ⟨#[97]⟩, .int .i64 0, .int .u32 0, .int .i64 0, .int .u32 0, .int .i64 0, .int .i64 0, .int .i64 0, .int .i64 0, .int .i64 0, .int .i64 0, .int .i64 0, .slice none 0 0, .slice none 0 0, .slice none 0 0, .slice none 0 0, .bool false, .string ⟨#[98]⟩, .int .i64 3, .int .u32 0, .int .i64 0, .int .u32 0, .int .i64 0, .int .i64 0, .int .i64 0, .int .i64 0, .int .i64 0, .int .i64 0, .int .i64 0, .slice none 0 0, .slice none 0 0, .slice none 0 0, .slice none 0 0, .bool false] 2 rfl rfl (by
      intro q hq
      simp only [List.mem_cons, List.not_mem_nil, or_false] at hq
      rcases hq with rfl | rfl <;> exact warg0 _ _ rfl rfl rfl rfl (by decide))
    refine (h.ats _ 2 2 _ 0 _ hr (by omega) (by
      intro q hq
      simp only [List.mem_cons, List.not_mem_nil, or_false] at hq
      rcases hq with rfl | rfl
      · exact rng_A
      · exact rng_B) (by
      intro q hq
      simp only [List.mem_cons, List.not_mem_nil, or_false] at hq
      rcases hq with rfl | rfl <;> decide) (by
      intro q hq
      simp only [List.mem_cons, List.not_mem_nil, or_false] at hq
      rcases hq with rfl | rfl <;> decide) (by unfold I64; omega)).mono ?_
    rintro e w' ⟨A, c, ps, rfl, hp, hr2, hb⟩
    have hp2 : ps.map (·.1) = [rlB, rlA] := by rw [hp]; rfl
    have hl : ps.length = 2 := by rw [← List.length_map (f := (·.1)), hp2]; rfl
    rw [hl] at hr2
    obtain ⟨b, off, rfl, _, hc⟩ := hr2.row (by omega)
    obtain ⟨q, hq0⟩ : ∃ q, ps[0]? = some q := ⟨ps[0], List.getElem?_eq_getElem (by omega)⟩
    have hq1 : q.1 = rlB := by
      have h1 : (ps.map (·.1))[0]? = some q.1 := by rw [List.getElem?_map, hq0]; rfl
      rw [hp2] at h1
      simp only [List.getElem?_cons_zero, Option.some.injEq] at h1
      exact h1.symm
    have c0 := hc 0 q 0 (.string (txt q.1.name)) hq0 rfl
    rw [hq1, show rlB.name = [98] from rfl, Nat.zero_mul, Nat.add_zero] at c0
    exact ⟨b, off, c, by rw [hl], c0, (Below.alloc (Below.refl _ _) (Nat.le_refl _) _).trans (hb.mono (by rw [size_alloc_eq]; omega))⟩
  have HN := hid (fun W => num14_any 0 W)
  have htl : (txt [98]).toList = [98] := txt_list _
  clear h
  go_enter Try.func14, Try.ntmps14
  go_wp2_with (first
    | (go_at_call 16; (with_reducible refine (H0.out _).mono ?_); rintro e' w1 ⟨rfl, hb1⟩)
    | (go_at_call 20; (with_reducible refine (H1.out _).mono ?_); rintro e' w2 ⟨b, off, c2, rfl, k0, hb2⟩)
    | (go_at_call 18; (with_reducible refine (HN.out _).mono ?_); rintro _ _ ⟨rfl, rfl⟩))
  go_ret
  exact ⟨rfl, hb1.trans (hb2.mono hb1.size)⟩
end Go.Proofs.Ythoblabimkfjpaa
