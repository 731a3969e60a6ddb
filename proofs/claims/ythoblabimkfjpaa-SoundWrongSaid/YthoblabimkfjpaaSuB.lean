/- slices.swapRangeCmpFunc at rules. -/
import Derived.Test.YthoblabimkfjpaaSuA
import Derived.Test.YthoblabimkfjpaaWdA
import Derived.Shelf.SlSortCmp.InsertionK
namespace Go.Proofs.Ythoblabimkfjpaa
open Go.RowKit Go.Sort Go.Proofs
set_option maxHeartbeats 6400000
set_option maxRecDepth 1000000
section
variable {α : Type} [Inhabited α]
/-- A row of elements of k cells, as the sort's texts take it. -/
structure Elt (enc : α → List Value) (k : Nat) : Prop where
  ag : ∀ w, (isAgg 58).run Try.prog w = .ok true w
  sz : ∀ w, (Go.sizeOf 58).run Try.prog w = .ok k w
  len : ∀ x, (enc x).length = k
  one : ∀ x, ∀ v ∈ enc x, v.oneCell' = true
theorem swap_map {d : Array α} {x y i : Nat} (hx : x + i < d.size) (hy : y + i < d.size) {d1 : Array α} (h : ∀ t, d1[t]! = d[swrI x y i t]!) (hs : d1.size = d.size) (hxy : x + i < y) : ∀ t, (swp d1 (x + i) (y + i))[t]! = d[swrI x y (i + 1) t]! := by
  intro t
  rw [swp_get d1 (by omega) (by omega), h, h, h]
  unfold swrI
  by_cases h1 : t = y + i
  · subst h1
    rw [if_pos rfl, if_neg (by omega), if_neg (by omega), if_neg (by omega), if_pos (by omega)]
    congr 1; omega
  · rw [if_neg h1]
    by_cases h2 : t = x + i
    · subst h2
      rw [if_pos rfl, if_neg (by omega), if_neg (by omega), if_pos (by omega)]
      congr 1; omega
    · rw [if_neg h2]
      repeat' split
      all_goals first | rfl | omega
theorem swapR_any {enc : α → List Value} {k : Nat} (E : Elt enc k) (g : Nat) (cb : Array Value) (blk off cap x y n : Nat) (d : Array α) (w : World) (hH : HoldsK enc k w blk off d) (hblk : blk < w.heap.size) (hxy : x + n ≤ y) (hy : y + n ≤ d.size) (hsz : d.size < 4611686018427387904) :
    Calls Try.prog 62 #[.slice (some ⟨blk, off, none⟩) d.size cap, .int .i64 x, .int .i64 y, .int .i64 n, .func (.func g) #[] cb] w fun e w' =>
      e = .returned (.tuple #[]) ∧ ∃ (q : Nat) (os : Array Obj) (d' : Array α), w' = sortWorldK enc k w blk off q d' os ∧ (∀ t, d'[t]! = d[swrI x y n t]!) ∧ (∀ a b, a ≤ x → y + n ≤ b → b ≤ d.size → PermIn a b d d') := by
  have mixed : Try.prog.follows .mixedOrders = true := by kernel_rfl
  have HE := hid E
  have aE := E.ag
  have zE := E.sz
  have HST : Hid (w = sortWorldK enc k w blk off 0 d #[]) := by show w = _; unfold sortWorldK; rw [grow_empty]; exact (putRowK_self enc k w blk off d hH).symm
  have HH := hid hH
  clear hH E
  go_enter Try.func62, Try.ntmps62
  go_wp2_with fail
  go_loopw [10] (fun vi wr => ∃ (i q : Nat) (dk : Array α) (os : Array Obj), vi = .int .i64 i ∧ i ≤ n ∧ dk.size = d.size ∧ wr = sortWorldK enc k w blk off q dk os ∧ Hid (∀ t, dk[t]! = d[swrI x y i t]!) ∧ Hid (∀ a b, a ≤ x → y + n ≤ b → b ≤ d.size → PermIn a b d dk)) (fun vi _ => n - (intOf vi).toNat)
  case atStart =>
    refine ⟨0, 0, d, #[], rfl, Nat.zero_le _, rfl, HST.out, fun t => ?_, fun a b _ _ _ => permIn_refl _ _ _⟩
    unfold swrI
    rw [if_neg (by omega), if_neg (by omega)]
  case round =>
    obtain ⟨i, q, dk, os, rfl, hin, hsk, rfl, HM, HP⟩ := hrel
    by_cases hlt : i < n
    · have hltz : decide ((i : Int) < (n : Int)) = true := decide_eq_true (by omega)
      obtain ⟨dx, hdx⟩ : ∃ v, dk[x + i]! = v := ⟨_, rfl⟩
      obtain ⟨dy, hdy⟩ : ∃ v, dk[y + i]! = v := ⟨_, rfl⟩
      have jx : (x : Int) + (i : Int) < (d.size : Int) := by omega
      have jy : (y : Int) + (i : Int) < (d.size : Int) := by omega
      have px : (0 : Int) ≤ (x : Int) + (i : Int) := by omega
      have py : (0 : Int) ≤ (y : Int) + (i : Int) := by omega
      have ex : ((x : Int) + (i : Int)).toNat = x + i := by omega
      have ey : ((y : Int) + (i : Int)).toNat = y + i := by omega
      have wx : IntKind.i64.wrap ((x : Int) + (i : Int)) = (x : Int) + (i : Int) := by rw [IntKind.wrap_i64]; omega
      have wy : IntKind.i64.wrap ((y : Int) + (i : Int)) = (y : Int) + (i : Int) := by rw [IntKind.wrap_i64]; omega
      obtain ⟨wq2, hw2⟩ : ∃ wq, sortWorldK enc k w blk off q dk os = wq := ⟨_, rfl⟩
      have hHd : HoldsK enc k wq2.drew blk off dk := by
        have : HoldsK enc k wq2 blk off dk := by rw [← hw2]; exact holdsK_sortWorldK_c enc k w blk off d dk _ _ HH.out hblk hsk
        exact this
      have bnd : ∀ z, z < dk.size → z * k + k ≤ dk.size * k := fun z hz => by
        have := Nat.mul_le_mul_right k (show z + 1 ≤ dk.size from hz); rwa [Nat.add_mul, Nat.one_mul] at this
      have lx : Sem.run Try.prog (loadCellsFrom ⟨blk, off + (x + i) * k, none⟩ 0 k #[]) wq2.drew = .ok (enc dx).toArray wq2.drew := by rw [← hdx]; exact run_loadCellsFrom_list Try.prog _ _ _ k (HE.out.len _) (HoldsK.cells hHd HE.out.len (by omega))
      have ly : Sem.run Try.prog (loadCellsFrom ⟨blk, off + (y + i) * k, none⟩ 0 k #[]) wq2.drew = .ok (enc dy).toArray wq2.drew := by rw [← hdy]; exact run_loadCellsFrom_list Try.prog _ _ _ k (HE.out.len _) (HoldsK.cells hHd HE.out.len (by omega))
      have s1 : Sem.run Try.prog (storeCells ⟨blk, off + (x + i) * k, none⟩ (enc dy) 0) wq2.drew = .ok () (wq2.drew.setCells blk (off + (x + i) * k) (enc dy)) := stores_of_holds Try.prog hHd ((x + i) * k) _ (by rw [HE.out.len, size_flatK]; exact bnd (x + i) (by omega)) (HE.out.one _)
      have s2 : Sem.run Try.prog (storeCells ⟨blk, off + (y + i) * k, none⟩ (enc dx) 0) (wq2.drew.setCells blk (off + (x + i) * k) (enc dy)) = .ok () ((wq2.drew.setCells blk (off + (x + i) * k) (enc dy)).setCells blk (off + (y + i) * k) (enc dx)) :=
        stores_of_holds Try.prog (holds_setCells_c hHd ((x + i) * k) _ (by rw [HE.out.len, size_flatK]; exact bnd (x + i) (by omega))) ((y + i) * k) _ (by rw [HE.out.len, size_setMany, size_flatK]; exact bnd (y + i) (by omega)) (HE.out.one _)
      have hsX : (enc dx).length = k := HE.out.len _
      have hsY : (enc dy).length = k := HE.out.len _
      have HW2 := hid hw2
      clear hHd bnd hw2
      rw [HW2.out]
      obtain ⟨cX, hcX⟩ : ∃ c, c = enc dx := ⟨_, rfl⟩
      obtain ⟨cY, hcY⟩ : ∃ c, c = enc dy := ⟨_, rfl⟩
      rw [← hcX] at lx hsX
      rw [← hcY] at ly hsY s1
      rw [← hcX, ← hcY] at s2
      have CC := hid (And.intro hcX hcY)
      have HDX := hid (And.intro hdx hdy)
      clear hcX hcY hdx hdy
      go_wp2_with fail
      go_big_region_o
      all_goals go_wp2
      go_roundw
      case measure => simp [intOf]; omega
      case rel =>
        refine ⟨i + 1, q + 1, swp dk (x + i) (y + i), os, by go_num, by omega, by rw [size_swp]; exact hsk, ?_, swap_map (by omega) (by omega) HM.out hsk (by omega), fun a b ha hb hbs => permIn_trans _ _ _ _ _ (HP.out a b ha hb hbs) (swp_permIn dk a b (x + i) (y + i) (by omega) (by omega) (by omega) (by omega) (by omega))⟩
        rw [CC.out.1, CC.out.2, ← HW2.out, ← HDX.out.1, ← HDX.out.2]
        exact sortWorldK_swp_c enc k w blk off HE.out.len q dk os hblk (x + i) (y + i) (by omega) (by omega)
    · have hltz : decide ((i : Int) < (n : Int)) = false := decide_eq_false (by omega)
      obtain rfl : i = n := by omega
      go_wp2_with fail
      go_end0
      exact ⟨rfl, q, os, dk, rfl, HM.out, HP.out⟩
end
end Go.Proofs.Ythoblabimkfjpaa
