/- What the laws ask of Cost, Start, Goal, Step, Has; alive. -/
import Derived.Test.YtabgbhkpeeibaaaOpI
namespace Go.Proofs.Ytabgbhkpeeibaaa
open Go.RowKit
set_option maxHeartbeats 6400000
set_option maxRecDepth 100000
def StGoSpec (f : Nat) (F : Wnt → Int × Int) : Prop := ∀ (x : Wnt) (y : WSl) (w : World), WArg w x y → y.nv ≤ 100 →
  Calls Try.prog f #[.agg #[.int .i64 x.frm, .int .i64 x.too, .int .i64 x.bnd, .slice y.av y.nv y.cv, .slice y.an y.nn y.cn, .slice y.al y.nl y.cl, .slice y.ac y.nc y.cc]] w fun e w' => e = .returned (.agg #[.int .i64 (F x).1, .int .i64 (F x).2]) ∧ Below w.heap.size w w'
theorem refStart_spec : StGoSpec 13 startS := fun x y w hw hv => start_any x y w hw (by omega)
theorem refGoal_spec : StGoSpec 15 goalS := fun x y w hw hv => goal_any x y w hw (by omega)
structure OptSpec (fCost fStart fGoal fStep fHas : Nat) : Prop where
  cost : CostSpec fCost
  start : StGoSpec fStart startS
  goal : StGoSpec fGoal goalS
  step : StepSpec fStep
  has : HasSpec fHas
theorem onum_any (x : Int) (w : World) : Calls Try.prog 11 #[.int .i64 x] w fun e w' => e = .returned (.int .i64 x) ∧ w = w' := by
  go_enter Try.func11, Try.ntmps11
  go_wp2_with fail
  go_ret
  exact ⟨rfl, rfl⟩
def wz : Wnt := ⟨0, 0, 0, [], [], [], []⟩
def w01 : Wnt := ⟨0, 1, 0, [], [], [], []⟩
def yz : WSl := ⟨none, 0, 0, none, 0, 0, none, 0, 0, none, 0, 0⟩
def lk7 : List Lnk := [⟨0, 1, 7, 0⟩]
theorem cost_one : costS 1 [] wz [] = (0, 0) := by
  have h1 : rightS 1 [] wz = 0 := by decide
  have h2 : prunedS 1 [] wz [] = [] := by decide
  rw [costS_L h1, h2]
  show costL 0 (legsS 1 [] [] 0 [0]) = _
  rw [legsS_some (by rw [from_one]; decide), from_one]
  rfl
theorem lk7_ok : GOk 2 lk7 := ⟨by decide, by decide, by decide, by decide⟩
theorem lk7_0 : fromS 2 lk7 [false] 0 = [0, 7] := by
  have hd : DistOk 2 lk7 [false] 0 [0, 7] := by
    refine ⟨rfl, rfl, fun v hv => ?_, fun k hk => ?_, fun v hv h0 _ => ?_⟩
    · rcases (show v = 0 ∨ v = 1 by omega) with rfl | rfl <;> decide
    · simp [lk7] at hk
      rcases (show k = 0 ∨ k = 1 by omega) with rfl | rfl <;> decide
    · obtain rfl : v = 1 := by omega
      exact ⟨0, by decide, by decide, by decide, by decide, by decide⟩
  unfold fromS
  rw [if_pos (by decide)]
  exact distS_eq lk7_ok hd
theorem lk7_1 : fromS 2 lk7 [false] 1 = [7, 0] := by
  have hd : DistOk 2 lk7 [false] 1 [7, 0] := by
    refine ⟨rfl, rfl, fun v hv => ?_, fun k hk => ?_, fun v hv h0 _ => ?_⟩
    · rcases (show v = 0 ∨ v = 1 by omega) with rfl | rfl <;> decide
    · simp [lk7] at hk
      rcases (show k = 0 ∨ k = 1 by omega) with rfl | rfl <;> decide
    · obtain rfl : v = 0 := by omega
      exact ⟨1, by decide, by decide, by decide, by decide, by decide⟩
  unfold fromS
  rw [if_pos (by decide)]
  exact distS_eq lk7_ok hd
theorem has_two : hasS 2 lk7 w01 [] [0] = true := by
  have h1 : rightS 2 lk7 w01 = 0 := by decide
  have h2 : prunedS 2 lk7 w01 [] = [false] := by decide
  have hc : costS 2 lk7 w01 [] = (7, 0) := by
    rw [costS_L h1, h2]
    show costL 0 (legsS 2 lk7 [false] 0 [1]) = _
    rw [legsS_some (by rw [lk7_0]; decide), lk7_0]
    rfl
  have hs : stepO 2 lk7 w01 [false] 0 0 0 = some (1, 1) := by
    unfold stepO
    rw [show (ptsS w01).getD ((0 : Int) + 1).toNat 0 = 1 from rfl, lk7_1, if_pos (by decide)]
    rfl
  unfold hasS
  rw [hc, h2, show startS w01 = (0, 0) from rfl]
  unfold walkO
  simp only [List.foldl_cons, List.foldl_nil, Option.bind_some, hs]
  rfl
theorem goal_two : goalS w01 = (1, 1) := rfl
theorem wz_arg (w : World) (x : Wnt) (hx : x.via = [] ∧ x.nds = [] ∧ x.lks = [] ∧ x.cls = []) (hb : -9223372036854775808 ≤ x.bnd ∧ x.bnd ≤ 9223372036854775807) : WArg w x yz := by
  have h0 : LArg w none 0 0 [] := ⟨⟨rfl, fun h => by omega⟩, Nat.le_refl _, fun _ => ⟨rfl, rfl⟩, Nat.zero_le _, fun x hx => by cases hx⟩
  obtain ⟨h1, h2, h3, h4⟩ := hx
  exact ⟨h1 ▸ h0, h2 ▸ h0, h3 ▸ h0, h4 ▸ h0, hb⟩
theorem rint_new (w : World) (x : Int) : RInt (w.alloc (.cells #[.int .i64 x] 3)) (w.heap.size + 1) (some ⟨w.heap.size, 0, none⟩) 1 [x] := by
  refine ⟨rfl, fun _ => ⟨w.heap.size, 0, rfl, by omega, fun i e he => ?_⟩⟩
  have hi : i = 0 := by
    have := (List.getElem?_eq_some_iff.1 he).1
    simp at this; omega
  subst hi
  simp at he
  subst he
  rw [cell_of_row _ _ _ _ _ _ (heap_alloc_new w _)]; rfl
theorem alive15 (h : OptSpec 9 12 14 18 16) (w : World) : Calls Try.prog 7 #[] w fun e w' => e = .returned (.bool true) ∧ Below w.heap.size w w' := by
  have hC : Hid (Calls Try.prog 9 #[.agg #[.int .i64 1, .slice none 0 0], .agg #[.int .i64 0, .int .i64 0, .int .i64 0, .slice none 0 0, .slice none 0 0, .slice none 0 0, .slice none 0 0], .slice none 0 0] w fun e w' => e = .returned (.tuple #[.int .i64 0, .int .i64 0]) ∧ Below w.heap.size w w') := by
    have := h.cost 1 none 0 0 [] wz yz none 0 0 [] w ⟨⟨rfl, fun h => by omega⟩, by omega, Nat.le_refl _, fun _ => ⟨rfl, rfl⟩, by omega, by omega⟩ (wz_arg w wz ⟨rfl, rfl, rfl, rfl⟩ (by decide)) (DArg.nil w) (by decide) (by decide) (by decide) (by decide)
    rw [cost_one] at this
    exact this
  have hH : Hid (∀ (b g : Nat) (W : World), RLnk W W.heap.size (some ⟨b, 0, none⟩) 1 lk7 → RInt W W.heap.size (some ⟨g, 0, none⟩) 1 [0] → Calls Try.prog 16 #[.agg #[.int .i64 2, .slice (some ⟨b, 0, none⟩) 1 1], .agg #[.int .i64 0, .int .i64 1, .int .i64 0, .slice none 0 0, .slice none 0 0, .slice none 0 0, .slice none 0 0], .slice none 0 0, .slice (some ⟨g, 0, none⟩) 1 1] W fun e w' => e = .returned (.bool true) ∧ Below W.heap.size W w') := fun b g W hb hgg => by
    have := h.has 2 (some ⟨b, 0, none⟩) 1 1 lk7 w01 yz none 0 0 [] (some ⟨g, 0, none⟩) 1 1 [0] W ⟨hb, by omega, Nat.le_refl _, fun h => (by cases h), by omega, by omega⟩ (wz_arg W w01 ⟨rfl, rfl, rfl, rfl⟩ (by decide)) (DArg.nil W) (by decide) (by decide) (by decide) (by decide) ⟨hgg, by omega, by simp⟩
    rw [has_two] at this
    exact this
  have hG : Hid (∀ (W : World), Calls Try.prog 14 #[.agg #[.int .i64 0, .int .i64 1, .int .i64 0, .slice none 0 0, .slice none 0 0, .slice none 0 0, .slice none 0 0]] W fun e w' => e = .returned (.agg #[.int .i64 1, .int .i64 1]) ∧ Below W.heap.size W w') := fun W => by
    have := h.goal w01 yz W (wz_arg W w01 ⟨rfl, rfl, rfl, rfl⟩ (by decide)) (by decide)
    rw [goal_two] at this
    exact this
  have HNum := hid onum_any
  have heq := fun W => eql2_run W 1 1 1 1
  clear h
  go_enter Try.func7, Try.ntmps7
  go_wp2_with (first
    | (go_at_call 9; (with_reducible refine hC.out.mono ?_); rintro e' w1 ⟨rfl, hb1⟩; have HB1 := hid hb1; clear hb1)
    | (go_at_call 11; (with_reducible refine (HNum.out _ _).mono ?_); rintro _ _ ⟨rfl, rfl⟩)
    | (go_at_call 16; refine Hid.out ?_))
  refine hid ?_
  have b1 : Below w1.heap.size w1 (w1.alloc (.cells #[.int .i64 0, .int .i64 1, .int .i64 7, .int .i64 0] 46)) := (Below.refl _ _).alloc (Nat.le_refl _) _
  have b2 : Below w1.heap.size w1 ((w1.alloc (.cells #[.int .i64 0, .int .i64 1, .int .i64 7, .int .i64 0] 46)).alloc (.cells #[.int .i64 2, .slice (some ⟨w1.heap.size, 0, none⟩) 1 1] 24)) := b1.alloc (by simp) _
  have b3 : Below w1.heap.size w1 (((w1.alloc (.cells #[.int .i64 0, .int .i64 1, .int .i64 7, .int .i64 0] 46)).alloc (.cells #[.int .i64 2, .slice (some ⟨w1.heap.size, 0, none⟩) 1 1] 24)).alloc (.cells #[.int .i64 0] 3)) := b2.alloc (by simp; omega) _
  have r1 := rlnk_new w1 ⟨0, 1, 7, 0⟩
  have r1b : RLnk (w1.alloc (.cells #[.int .i64 0, .int .i64 1, .int .i64 7, .int .i64 0] 46)) (w1.alloc (.cells #[.int .i64 0, .int .i64 1, .int .i64 7, .int .i64 0] 46)).heap.size (some ⟨w1.heap.size, 0, none⟩) 1 lk7 := r1.more (by simp)
  have c2 : Below (w1.alloc (.cells #[.int .i64 0, .int .i64 1, .int .i64 7, .int .i64 0] 46)).heap.size (w1.alloc (.cells #[.int .i64 0, .int .i64 1, .int .i64 7, .int .i64 0] 46)) (((w1.alloc (.cells #[.int .i64 0, .int .i64 1, .int .i64 7, .int .i64 0] 46)).alloc (.cells #[.int .i64 2, .slice (some ⟨w1.heap.size, 0, none⟩) 1 1] 24)).alloc (.cells #[.int .i64 0] 3)) := ((Below.refl _ _).alloc (Nat.le_refl _) _).alloc (by simp) _
  have r2 := r1b.on c2
  have r3 := rint_new ((w1.alloc (.cells #[.int .i64 0, .int .i64 1, .int .i64 7, .int .i64 0] 46)).alloc (.cells #[.int .i64 2, .slice (some ⟨w1.heap.size, 0, none⟩) 1 1] 24)) 0
  have e2 : ((w1.alloc (.cells #[.int .i64 0, .int .i64 1, .int .i64 7, .int .i64 0] 46)).alloc (.cells #[.int .i64 2, .slice (some ⟨w1.heap.size, 0, none⟩) 1 1] 24)).heap.size = w1.heap.size + 1 + 1 := by simp
  have r4 : RInt (((w1.alloc (.cells #[.int .i64 0, .int .i64 1, .int .i64 7, .int .i64 0] 46)).alloc (.cells #[.int .i64 2, .slice (some ⟨w1.heap.size, 0, none⟩) 1 1] 24)).alloc (.cells #[.int .i64 0] 3)) (((w1.alloc (.cells #[.int .i64 0, .int .i64 1, .int .i64 7, .int .i64 0] 46)).alloc (.cells #[.int .i64 2, .slice (some ⟨w1.heap.size, 0, none⟩) 1 1] 24)).alloc (.cells #[.int .i64 0] 3)).heap.size (some ⟨w1.heap.size + 1 + 1, 0, none⟩) 1 [0] := by
    rw [e2] at r3
    exact r3.more (by simp)
  refine (hH.out _ _ _ r2 r4).mono ?_
  rintro e' w2 ⟨rfl, hb2⟩
  have hb3 := HB1.out.trans ((b3.trans (hb2.mono b3.size)).mono HB1.out.size)
  clear r1 r1b r2 r3 r4 e2 b1 b2 b3 c2 hb2
  have HB3 := hid hb3
  clear hb3
  go_wp2_with (go_at_call 14; (with_reducible refine (hG.out _).mono ?_); rintro e' w4 ⟨rfl, hb4⟩; have HB4 := hid (HB3.out.trans (hb4.mono HB3.out.size)); clear hb4)
  go_ret
  exact ⟨rfl, HB4.out⟩
end Go.Proofs.Ytabgbhkpeeibaaa
