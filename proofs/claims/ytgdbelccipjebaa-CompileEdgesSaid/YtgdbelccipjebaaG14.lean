/- Merged: CqN CqO CqP. -/
import Derived.Test.YtgdbelccipjebaaG30
/- CompileEdges' graph and what its wants are compiled to. -/
namespace Go.Proofs.Ytgdbelccipjebaa
open Go.RowKit
set_option maxHeartbeats 6400000
set_option maxRecDepth 100000
def lkE (c D : Int) : List Lnk := [⟨0, 1, D, 0⟩, ⟨0, 2, c, 0⟩, ⟨2, 1, c, 0⟩]
def wE : Wnt := ⟨0, 1, 0, [], [2], [], []⟩
def wF : Wnt := ⟨0, 1, 0, [], [], [0], []⟩
section
variable {c D : Int}
theorem lnk_good {a b m : Int} (ha : 0 ≤ a ∧ a < 3) (hb : 0 ≤ b ∧ b < 3) (hab : a ≠ b) (hm : 1 ≤ m ∧ m ≤ 16777216) : lnkErr 3 ⟨a, b, m, 0⟩ = 0 := by
  unfold lnkErr
  rw [if_pos ⟨ha.1, ha.2, hb.1, hb.2, hab⟩, if_pos ⟨hm.1, hm.2, Int.le_refl 0, show (0 : Int) ≤ 62 by decide⟩]
theorem lkE_ok (hc : 1 ≤ c ∧ c ≤ 1000) (hD : 2 * c ≤ D ∧ D ≤ 100000) : GOk 3 (lkE c D) := by
  refine ⟨by show (3 : Nat) ≤ 120; omega, by omega, by omega, ?_⟩
  have h1 : lnkErr 3 ⟨0, 1, D, 0⟩ = 0 := lnk_good (by decide) (by decide) (by decide) (by omega)
  have h2 : lnkErr 3 ⟨0, 2, c, 0⟩ = 0 := lnk_good (by decide) (by decide) (by decide) (by omega)
  have h3 : lnkErr 3 ⟨2, 1, c, 0⟩ = 0 := lnk_good (by decide) (by decide) (by decide) (by omega)
  show (chk (3 : Int) (lkE c D) 0).2 = 0
  unfold lkE
  rw [chk, if_pos h1, chk, if_pos h2, chk, if_pos h3]
  rfl
theorem lkE_e : endsS (lkE c D) 0 = (0, 1, true) ∧ endsS (lkE c D) 1 = (1, 0, true) ∧ endsS (lkE c D) 2 = (0, 2, true) ∧ endsS (lkE c D) 3 = (2, 0, true) ∧ endsS (lkE c D) 4 = (2, 1, true) ∧ endsS (lkE c D) 5 = (1, 2, true) := ⟨rfl, rfl, rfl, rfl, rfl, rfl⟩
theorem lkE_f : frm (lkE c D) 0 = 0 ∧ frm (lkE c D) 1 = 1 ∧ frm (lkE c D) 2 = 0 ∧ frm (lkE c D) 3 = 2 ∧ frm (lkE c D) 4 = 2 ∧ frm (lkE c D) 5 = 1 := ⟨rfl, rfl, rfl, rfl, rfl, rfl⟩
theorem lkE_t : tov (lkE c D) 0 = 1 ∧ tov (lkE c D) 1 = 0 ∧ tov (lkE c D) 2 = 2 ∧ tov (lkE c D) 3 = 0 ∧ tov (lkE c D) 4 = 1 ∧ tov (lkE c D) 5 = 2 := ⟨rfl, rfl, rfl, rfl, rfl, rfl⟩
theorem lkE_m : met (lkE c D) 0 = D ∧ met (lkE c D) 1 = D ∧ met (lkE c D) 2 = c ∧ met (lkE c D) 3 = c ∧ met (lkE c D) 4 = c ∧ met (lkE c D) 5 = c := ⟨rfl, rfl, rfl, rfl, rfl, rfl⟩
theorem dat3 (a b d : Int) : dAt [a, b, d] 0 = a ∧ dAt [a, b, d] 1 = b ∧ dAt [a, b, d] 2 = d := ⟨rfl, rfl, rfl⟩
/-- A row of three distances, checked. -/
theorem dist3 {gn : List Bool} {s : Nat} {a b d : Int} (hs : dAt [a, b, d] (s : Int) = 0) (h0 : -1 ≤ a) (h1 : -1 ≤ b) (h2 : -1 ≤ d)
    (e0 : isDn gn 0 = false → (0 ≤ a → 0 ≤ b ∧ b ≤ a + D) ∧ (0 ≤ b → 0 ≤ a ∧ a ≤ b + D))
    (e1 : isDn gn 1 = false → (0 ≤ a → 0 ≤ d ∧ d ≤ a + c) ∧ (0 ≤ d → 0 ≤ a ∧ a ≤ d + c))
    (e2 : isDn gn 2 = false → (0 ≤ d → 0 ≤ b ∧ b ≤ d + c) ∧ (0 ≤ b → 0 ≤ d ∧ d ≤ b + c))
    (v : ∀ v : Nat, v < 3 → v ≠ s → 0 ≤ dAt [a, b, d] (v : Int) → ∃ k, k < 6 ∧ isDn gn (k / 2) = false ∧ tov (lkE c D) k = (v : Int) ∧ 0 ≤ dAt [a, b, d] (frm (lkE c D) k) ∧ dAt [a, b, d] (v : Int) = dAt [a, b, d] (frm (lkE c D) k) + met (lkE c D) k) :
    DistOk 3 (lkE c D) gn s [a, b, d] := by
  obtain ⟨q0, q1, q2⟩ := dat3 a b d
  refine ⟨rfl, hs, fun v hv => ?_, fun k hk hg hp => ?_, v⟩
  · rcases (show v = 0 ∨ v = 1 ∨ v = 2 by omega) with rfl | rfl | rfl
    · exact h0
    · exact h1
    · exact h2
  · have hk6 : k < 6 := hk
    obtain ⟨f0, f1, f2, f3, f4, f5⟩ := @lkE_f c D
    obtain ⟨t0, t1, t2, t3, t4, t5⟩ := @lkE_t c D
    obtain ⟨m0, m1, m2, m3, m4, m5⟩ := @lkE_m c D
    rcases (show k = 0 ∨ k = 1 ∨ k = 2 ∨ k = 3 ∨ k = 4 ∨ k = 5 by omega) with rfl | rfl | rfl | rfl | rfl | rfl
    · rw [f0, q0] at hp; rw [f0, t0, m0, q0, q1]; exact (e0 hg).1 hp
    · rw [f1, q1] at hp; rw [f1, t1, m1, q0, q1]; exact (e0 hg).2 hp
    · rw [f2, q0] at hp; rw [f2, t2, m2, q0, q2]; exact (e1 hg).1 hp
    · rw [f3, q2] at hp; rw [f3, t3, m3, q0, q2]; exact (e1 hg).2 hp
    · rw [f4, q2] at hp; rw [f4, t4, m4, q2, q1]; exact (e2 hg).1 hp
    · rw [f5, q1] at hp; rw [f5, t5, m5, q2, q1]; exact (e2 hg).2 hp
variable (hc : 1 ≤ c ∧ c ≤ 1000) (hD : 2 * c ≤ D ∧ D ≤ 100000)
include hc hD
/-- Over the two cheap links: all distances. -/
theorem distE {gn : List Bool} (g1 : isDn gn 1 = false) (g2 : isDn gn 2 = false) :
    DistOk 3 (lkE c D) gn 0 [0, 2 * c, c] ∧ DistOk 3 (lkE c D) gn 1 [2 * c, 0, c] ∧ DistOk 3 (lkE c D) gn 2 [c, c, 0] := by
  refine ⟨?_, ?_, ?_⟩
  · refine dist3 rfl (by omega) (by omega) (by omega) (fun _ => by omega) (fun _ => by omega) (fun _ => by omega) (fun v hv hs _ => ?_)
    rcases (show v = 1 ∨ v = 2 by omega) with rfl | rfl
    · exact ⟨4, by omega, g2, rfl, show 0 ≤ c by omega, show 2 * c = c + c by omega⟩
    · exact ⟨2, by omega, g1, rfl, show (0 : Int) ≤ 0 by omega, show c = 0 + c by omega⟩
  · refine dist3 rfl (by omega) (by omega) (by omega) (fun _ => by omega) (fun _ => by omega) (fun _ => by omega) (fun v hv hs _ => ?_)
    rcases (show v = 0 ∨ v = 2 by omega) with rfl | rfl
    · exact ⟨3, by omega, g1, rfl, show 0 ≤ c by omega, show 2 * c = c + c by omega⟩
    · exact ⟨5, by omega, g2, rfl, show (0 : Int) ≤ 0 by omega, show c = 0 + c by omega⟩
  · refine dist3 rfl (by omega) (by omega) (by omega) (fun _ => by omega) (fun _ => by omega) (fun _ => by omega) (fun v hv hs _ => ?_)
    rcases (show v = 0 ∨ v = 1 by omega) with rfl | rfl
    · exact ⟨3, by omega, g1, rfl, show (0 : Int) ≤ 0 by omega, show c = 0 + c by omega⟩
    · exact ⟨4, by omega, g2, rfl, show (0 : Int) ≤ 0 by omega, show c = 0 + c by omega⟩
/-- Without node 2. -/
theorem distF : DistOk 3 (lkE c D) [false, true, true] 0 [0, D, -1] ∧ DistOk 3 (lkE c D) [false, true, true] 1 [D, 0, -1] := by
  refine ⟨?_, ?_⟩
  · refine dist3 rfl (by omega) (by omega) (by omega) (fun _ => by omega) (fun h => by cases h) (fun h => by cases h) (fun v hv hs h => ?_)
    rcases (show v = 1 ∨ v = 2 by omega) with rfl | rfl
    · exact ⟨0, by omega, rfl, rfl, show (0 : Int) ≤ 0 by omega, show D = 0 + D by omega⟩
    · exact absurd (show (0 : Int) ≤ -1 from h) (by decide)
  · refine dist3 rfl (by omega) (by omega) (by omega) (fun _ => by omega) (fun h => by cases h) (fun h => by cases h) (fun v hv hs h => ?_)
    rcases (show v = 0 ∨ v = 2 by omega) with rfl | rfl
    · exact ⟨1, by omega, rfl, rfl, show (0 : Int) ≤ 0 by omega, show D = 0 + D by omega⟩
    · exact absurd (show (0 : Int) ≤ -1 from h) (by decide)
theorem fromE {gn : List Bool} {s : Nat} {d : List Int} (hs : s < 3) (h : DistOk 3 (lkE c D) gn s d) : fromS 3 (lkE c D) gn (s : Int) = d := by
  unfold fromS
  rw [if_pos ⟨gok_check (lkE_ok hc hD), by omega, by omega⟩, Int.toNat_natCast]
  exact distS_eq (lkE_ok hc hD) h
theorem right_E : rightS 3 (lkE c D) wE = 0 ∧ rightS 3 (lkE c D) wF = 0 := by
  have h0 := gok_check (lkE_ok hc hD)
  constructor
  · unfold rightS
    rw [if_neg (fun h => h h0)]
    rfl
  · unfold rightS
    rw [if_neg (fun h => h h0)]
    rfl
theorem pruned_E : prunedS 3 (lkE c D) wE [] = [false, true, true] ∧ prunedS 3 (lkE c D) wF [] = [true, false, false] := by
  obtain ⟨h1, h2⟩ := right_E hc hD
  constructor
  · unfold prunedS
    rw [if_pos h1]
    rfl
  · unfold prunedS
    rw [if_pos h2]
    rfl
theorem cost_E : (costS 3 (lkE c D) wE []).2 = 0 ∧ (costS 3 (lkE c D) wF []).2 = 0 := by
  obtain ⟨h1, h2⟩ := right_E hc hD
  obtain ⟨p1, p2⟩ := pruned_E hc hD
  constructor
  · rw [costS_L h1, p1]
    show (costL 0 (legsS 3 (lkE c D) [false, true, true] 0 [1])).2 = 0
    have hf := fromE hc hD (s := 0) (by omega) (distF hc hD).1
    rw [show ((0 : Nat) : Int) = 0 from rfl] at hf
    rw [legsS_some (by rw [hf]; show ¬D < 0; omega), hf]
    rfl
  · rw [costS_L h2, p2]
    show (costL 0 (legsS 3 (lkE c D) [true, false, false] 0 [1])).2 = 0
    have hf := fromE hc hD (s := 0) (by omega) (distE hc hD (gn := [true, false, false]) rfl rfl).1
    rw [show ((0 : Nat) : Int) = 0 from rfl] at hf
    rw [legsS_some (by rw [hf]; show ¬2 * c < 0; omega), hf]
    rfl
omit hc hD in
theorem on_yes {gn : List Bool} {bt : List Int} {nd e : Int} {k : Nat} (he : e.toNat = k) (h1 : isDn gn (k / 2) = false) (h2 : 0 ≤ dAt bt (tov (lkE c D) k)) (h3 : dAt bt nd - dAt bt (tov (lkE c D) k) = met (lkE c D) k) : onS (lkE c D) gn bt nd e = true := by
  unfold onS
  rw [he, h1, h3]
  simp [h2]
omit hc hD in
theorem on_gone {gn : List Bool} {bt : List Int} {nd e : Int} {k : Nat} (he : e.toNat = k) (h1 : isDn gn (k / 2) = true) : onS (lkE c D) gn bt nd e = false := by
  unfold onS
  rw [he, h1]
  rfl
omit hc hD in
theorem on_not {gn : List Bool} {bt : List Int} {nd e : Int} {k : Nat} (he : e.toNat = k) (h3 : dAt bt nd - dAt bt (tov (lkE c D) k) ≠ met (lkE c D) k) : onS (lkE c D) gn bt nd e = false := by
  unfold onS
  rw [he]
  simp [h3]
omit hc hD in
theorem out_E : outS (lkE c D) 0 (2 * (lkE c D).length) = [0, 2] ∧ outS (lkE c D) 2 (2 * (lkE c D).length) = [3, 4] := by
  obtain ⟨e0, e1, e2, e3, e4, e5⟩ := @lkE_e c D
  constructor
  · show (([0, 1, 2, 3, 4, 5] : List Int).filter (fun e => (endsS (lkE c D) e).1 == 0)) = _
    simp [e0, e1, e2, e3, e4, e5]
  · show (([0, 1, 2, 3, 4, 5] : List Int).filter (fun e => (endsS (lkE c D) e).1 == 2)) = _
    simp [e0, e1, e2, e3, e4, e5]
theorem nextE {gn : List Bool} {bt : List Int} {v : Int} {b1 b2 : Bool} {e1 e2 : Int} (hv : 0 ≤ v ∧ v < 3) (ht : (bt.length : Int) = 3) (h0 : 0 < dAt bt v) (ho : outS (lkE c D) v (2 * (lkE c D).length) = [e1, e2]) (h1 : onS (lkE c D) gn bt v e1 = b1) (h2 : onS (lkE c D) gn bt v e2 = b2) :
    nextS 3 (lkE c D) gn bt v = (if b1 then [e1] else []) ++ (if b2 then [e2] else []) := by
  unfold nextS
  rw [if_pos ⟨gok_check (lkE_ok hc hD), ht, hv.1, hv.2, h0⟩, ho]
  cases b1 <;> cases b2 <;> simp [h1, h2]
theorem nextTE {bt : List Int} {v : Int} {s : Nat} (hs : s < 3) (h : DistOk 3 (lkE c D) [] s bt) : nextT 3 (lkE c D) v (s : Int) = nextS 3 (lkE c D) [] bt v := by
  unfold nextT
  rw [if_pos ⟨by omega, by omega⟩, Int.toNat_natCast, distS_eq (lkE_ok hc hD) h]
  rfl
theorem next_01 : nextT 3 (lkE c D) 0 1 = if D = 2 * c then [0, 2] else [2] := by
  have h := nextTE hc hD (v := 0) (s := 1) (by omega) (distE hc hD (gn := []) rfl rfl).2.1
  rw [show ((1 : Nat) : Int) = 1 from rfl] at h
  rw [h]
  have h2 : onS (lkE c D) [] [2 * c, 0, c] 0 2 = true := on_yes (k := 2) rfl rfl (by show 0 ≤ c; omega) (by show 2 * c - c = c; omega)
  by_cases hd : D = 2 * c
  · have h1 : onS (lkE c D) [] [2 * c, 0, c] 0 0 = true := on_yes (k := 0) rfl rfl (by show (0 : Int) ≤ 0; omega) (by show 2 * c - 0 = D; omega)
    rw [if_pos hd, nextE hc hD (by decide) rfl (by show 0 < 2 * c; omega) out_E.1 h1 h2]
    rfl
  · have h1 : onS (lkE c D) [] [2 * c, 0, c] 0 0 = false := on_not (k := 0) rfl (by show 2 * c - 0 ≠ D; omega)
    rw [if_neg hd, nextE hc hD (by decide) rfl (by show 0 < 2 * c; omega) out_E.1 h1 h2]
    rfl
theorem next_02 : nextT 3 (lkE c D) 0 2 = [2] := by
  have h := nextTE hc hD (v := 0) (s := 2) (by omega) (distE hc hD (gn := []) rfl rfl).2.2
  rw [show ((2 : Nat) : Int) = 2 from rfl] at h
  rw [h]
  have h1 : onS (lkE c D) [] [c, c, 0] 0 0 = false := on_not (k := 0) rfl (by show c - c ≠ D; omega)
  have h2 : onS (lkE c D) [] [c, c, 0] 0 2 = true := on_yes (k := 2) rfl rfl (by show (0 : Int) ≤ 0; omega) (by show c - 0 = c; omega)
  rw [nextE hc hD (by decide) rfl (by show 0 < c; omega) out_E.1 h1 h2]
  rfl
theorem next_21 : nextT 3 (lkE c D) 2 1 = [4] := by
  have h := nextTE hc hD (v := 2) (s := 1) (by omega) (distE hc hD (gn := []) rfl rfl).2.1
  rw [show ((1 : Nat) : Int) = 1 from rfl] at h
  rw [h]
  have h1 : onS (lkE c D) [] [2 * c, 0, c] 2 3 = false := on_not (k := 3) rfl (by show c - 2 * c ≠ c; omega)
  have h2 : onS (lkE c D) [] [2 * c, 0, c] 2 4 = true := on_yes (k := 4) rfl rfl (by show (0 : Int) ≤ 0; omega) (by show c - 0 = c; omega)
  rw [nextE hc hD (by decide) rfl (by show 0 < c; omega) out_E.2 h1 h2]
  rfl
theorem next_20 : nextT 3 (lkE c D) 2 0 = [3] := by
  have h := nextTE hc hD (v := 2) (s := 0) (by omega) (distE hc hD (gn := []) rfl rfl).1
  rw [show ((0 : Nat) : Int) = 0 from rfl] at h
  rw [h]
  have h1 : onS (lkE c D) [] [0, 2 * c, c] 2 3 = true := on_yes (k := 3) rfl rfl (by show (0 : Int) ≤ 0; omega) (by show c - 0 = c; omega)
  have h2 : onS (lkE c D) [] [0, 2 * c, c] 2 4 = false := on_not (k := 4) rfl (by show c - 2 * c ≠ c; omega)
  rw [nextE hc hD (by decide) rfl (by show 0 < c; omega) out_E.2 h1 h2]
  rfl
/-- The best steps: without node 2 from 0; without link 0 from 0 and from 2. -/
theorem best_E : nextS 3 (lkE c D) [false, true, true] (fromS 3 (lkE c D) [false, true, true] 1) 0 = [0] := by
  have hf := fromE hc hD (s := 1) (by omega) (distF hc hD).2
  rw [show ((1 : Nat) : Int) = 1 from rfl] at hf
  rw [hf]
  have h1 : onS (lkE c D) [false, true, true] [D, 0, -1] 0 0 = true := on_yes (k := 0) rfl rfl (by show (0 : Int) ≤ 0; omega) (by show D - 0 = D; omega)
  have h2 : onS (lkE c D) [false, true, true] [D, 0, -1] 0 2 = false := on_gone (k := 2) rfl rfl
  rw [nextE hc hD (by decide) rfl (by show 0 < D; omega) out_E.1 h1 h2]
  rfl
theorem best_F : nextS 3 (lkE c D) [true, false, false] (fromS 3 (lkE c D) [true, false, false] 1) 0 = [2] ∧ nextS 3 (lkE c D) [true, false, false] (fromS 3 (lkE c D) [true, false, false] 1) 2 = [4] := by
  have hf := fromE hc hD (s := 1) (by omega) (distE hc hD (gn := [true, false, false]) rfl rfl).2.1
  rw [show ((1 : Nat) : Int) = 1 from rfl] at hf
  rw [hf]
  have h1 : onS (lkE c D) [true, false, false] [2 * c, 0, c] 0 0 = false := on_gone (k := 0) rfl rfl
  have h2 : onS (lkE c D) [true, false, false] [2 * c, 0, c] 0 2 = true := on_yes (k := 2) rfl rfl (by show 0 ≤ c; omega) (by show 2 * c - c = c; omega)
  have h3 : onS (lkE c D) [true, false, false] [2 * c, 0, c] 2 3 = false := on_not (k := 3) rfl (by show c - 2 * c ≠ c; omega)
  have h4 : onS (lkE c D) [true, false, false] [2 * c, 0, c] 2 4 = true := on_yes (k := 4) rfl rfl (by show (0 : Int) ≤ 0; omega) (by show c - 0 = c; omega)
  constructor
  · rw [nextE hc hD (by decide) rfl (by show 0 < 2 * c; omega) out_E.1 h1 h2]
    rfl
  · rw [nextE hc hD (by decide) rfl (by show 0 < c; omega) out_E.2 h3 h4]
    rfl
end
end Go.Proofs.Ytgdbelccipjebaa

/- What CompileEdges' wants are compiled to. -/
namespace Go.Proofs.Ytgdbelccipjebaa
open Go.RowKit
set_option maxHeartbeats 6400000
set_option maxRecDepth 100000
theorem canS_more {N : Nat} {l : List Lnk} {x : Wnt} {gn : List Bool} {n : Nat} {p : Int × Int} {s : Sg} (h : (segsS N l).find? (fun s => goB (canS N l x gn n) (segO N l x gn p s.edge s.too)) = some s) : canS N l x gn (n + 1) p = true := by
  have h1 := List.find?_some h
  unfold canS
  exact List.any_eq_true.2 ⟨s, List.mem_of_find?_eq_some h, h1⟩
section
variable {c D : Int}
theorem segs_E : segsS 3 (lkE c D) = [⟨false, 0⟩, ⟨false, 1⟩, ⟨false, 2⟩, ⟨true, 0⟩, ⟨true, 1⟩, ⟨true, 2⟩, ⟨true, 3⟩, ⟨true, 4⟩, ⟨true, 5⟩] := rfl
theorem step_off {x : Wnt} {gn : List Bool} {v k e : Int} (h : (endsS (lkE c D) e).1 ≠ v) : stepO 3 (lkE c D) x gn v k e = none := by
  unfold stepO
  rw [if_neg (fun h2 => h h2.2.1)]
theorem step_no {x : Wnt} {gn : List Bool} {v k e : Int} (h : e ∉ nextS 3 (lkE c D) gn (fromS 3 (lkE c D) gn ((ptsS x).getD (k + 1).toNat 0)) v) : stepO 3 (lkE c D) x gn v k e = none := by
  unfold stepO
  rw [if_neg (fun h2 => h h2.2.2.2.2)]
theorem step_yes {x : Wnt} {gn : List Bool} {v k e t : Int} {p : Int × Int} (he : endsS (lkE c D) e = (v, t, true)) (hk : 0 ≤ k ∧ k < ((ptsS x).length : Int) - 1) (h : e ∈ nextS 3 (lkE c D) gn (fromS 3 (lkE c D) gn ((ptsS x).getD (k + 1).toNat 0)) v) (hp : comeS (ptsS x) t k = p) : stepO 3 (lkE c D) x gn v k e = some p := by
  unfold stepO
  rw [he]
  rw [if_pos ⟨rfl, rfl, hk.1, hk.2, h⟩]
  exact congrArg some hp
theorem seg_edge {x : Wnt} {gn : List Bool} {p : Int × Int} {t : Int} : segO 3 (lkE c D) x gn p true t = stepO 3 (lkE c D) x gn p.1 p.2 t := by
  unfold segO
  rw [if_pos rfl]
  rfl
theorem seg_node {x : Wnt} {gn : List Bool} {p : Int × Int} {t : Int} (h : 0 ≤ t ∧ t < 3 ∧ 0 ≤ p.1 ∧ p.1 < 3 ∧ p.1 ≠ t ∧ 0 ≤ p.2 ∧ p.2 < (ptsS x).length) : segO 3 (lkE c D) x gn p false t = reachO 3 (lkE c D) x gn t p := by
  unfold segO
  rw [if_neg (by decide), if_pos (show 0 ≤ t ∧ t < ((3 : Nat) : Int) ∧ 0 ≤ p.1 ∧ p.1 < ((3 : Nat) : Int) ∧ p.1 ≠ t ∧ 0 ≤ p.2 ∧ p.2 < (ptsS x).length from h)]
theorem seg_same {x : Wnt} {gn : List Bool} {p : Int × Int} {t : Int} (h : p.1 = t) : segO 3 (lkE c D) x gn p false t = none := by
  unfold segO
  rw [if_neg (by decide), if_neg (fun h2 => h2.2.2.2.2.1 h)]
variable (hc : 1 ≤ c ∧ c ≤ 1000) (hD : 2 * c ≤ D ∧ D ≤ 100000)
include hc hD
theorem stepE : stepO 3 (lkE c D) wE [false, true, true] 0 0 0 = some (1, 1) ∧ stepO 3 (lkE c D) wE [false, true, true] 0 0 2 = none := by
  have hb : nextS 3 (lkE c D) [false, true, true] (fromS 3 (lkE c D) [false, true, true] ((ptsS wE).getD ((0 : Int) + 1).toNat 0)) 0 = [0] := best_E hc hD
  exact ⟨step_yes (lkE_e).1 ⟨by decide, by decide⟩ (by rw [hb]; decide) rfl, step_no (by rw [hb]; decide)⟩
theorem stepF : stepO 3 (lkE c D) wF [true, false, false] 0 0 0 = none ∧ stepO 3 (lkE c D) wF [true, false, false] 0 0 2 = some (2, 0) ∧ stepO 3 (lkE c D) wF [true, false, false] 2 0 3 = none ∧ stepO 3 (lkE c D) wF [true, false, false] 2 0 4 = some (1, 1) := by
  have hb : nextS 3 (lkE c D) [true, false, false] (fromS 3 (lkE c D) [true, false, false] ((ptsS wF).getD ((0 : Int) + 1).toNat 0)) 0 = [2] := (best_F hc hD).1
  have hb2 : nextS 3 (lkE c D) [true, false, false] (fromS 3 (lkE c D) [true, false, false] ((ptsS wF).getD ((0 : Int) + 1).toNat 0)) 2 = [4] := (best_F hc hD).2
  exact ⟨step_no (by rw [hb]; decide), step_yes (lkE_e).2.2.1 ⟨by decide, by decide⟩ (by rw [hb]; decide) rfl, step_no (by rw [hb2]; decide), step_yes (lkE_e).2.2.2.2.1 ⟨by decide, by decide⟩ (by rw [hb2]; decide) rfl⟩
theorem reachE : reachO 3 (lkE c D) wE [false, true, true] 1 (0, 0) = none ∧ reachO 3 (lkE c D) wE [false, true, true] 2 (0, 0) = none := by
  obtain ⟨h1, h2⟩ := stepE hc hD
  have hg := lkE_ok hc hD
  have r1 : reachO 3 (lkE c D) wE [false, true, true] 1 (1, 1) = some (1, 1) := by rw [reachO_eq hg, if_pos rfl]
  constructor
  · rw [reachO_eq hg, if_neg (by decide), show nextT 3 (lkE c D) (0, (0 : Int)).1 1 = _ from next_01 hc hD]
    by_cases hd : D = 2 * c
    · rw [if_pos hd]
      show meetO [(stepO 3 (lkE c D) wE [false, true, true] 0 0 0).bind _, (stepO 3 (lkE c D) wE [false, true, true] 0 0 2).bind _] = none
      rw [h1, h2, Option.bind_some, Option.bind_none, r1]
      decide
    · rw [if_neg hd]
      show meetO [(stepO 3 (lkE c D) wE [false, true, true] 0 0 2).bind _] = none
      rw [h2]
      rfl
  · rw [reachO_eq hg, if_neg (by decide), show nextT 3 (lkE c D) (0, (0 : Int)).1 2 = _ from next_02 hc hD]
    show meetO [(stepO 3 (lkE c D) wE [false, true, true] 0 0 2).bind _] = none
    rw [h2]
    rfl
theorem reachF_21 : reachO 3 (lkE c D) wF [true, false, false] 1 (2, 0) = some (1, 1) ∧ reachO 3 (lkE c D) wF [true, false, false] 0 (2, 0) = none ∧ reachO 3 (lkE c D) wF [true, false, false] 2 (0, 0) = some (2, 0) := by
  obtain ⟨h1, h2, h3, h4⟩ := stepF hc hD
  have hg := lkE_ok hc hD
  have r1 : reachO 3 (lkE c D) wF [true, false, false] 1 (1, 1) = some (1, 1) := by rw [reachO_eq hg, if_pos rfl]
  have r2 : reachO 3 (lkE c D) wF [true, false, false] 2 (2, 0) = some (2, 0) := by rw [reachO_eq hg, if_pos rfl]
  refine ⟨?_, ?_, ?_⟩
  · rw [reachO_eq hg, if_neg (by decide), show nextT 3 (lkE c D) (2, (0 : Int)).1 1 = _ from next_21 hc hD]
    show meetO [(stepO 3 (lkE c D) wF [true, false, false] 2 0 4).bind _] = _
    rw [h4]
    exact r1
  · rw [reachO_eq hg, if_neg (by decide), show nextT 3 (lkE c D) (2, (0 : Int)).1 0 = _ from next_20 hc hD]
    show meetO [(stepO 3 (lkE c D) wF [true, false, false] 2 0 3).bind _] = _
    rw [h3]
    rfl
  · rw [reachO_eq hg, if_neg (by decide), show nextT 3 (lkE c D) (0, (0 : Int)).1 2 = _ from next_02 hc hD]
    show meetO [(stepO 3 (lkE c D) wF [true, false, false] 0 0 2).bind _] = _
    rw [h2]
    exact r2
theorem reachF_01 : reachO 3 (lkE c D) wF [true, false, false] 1 (0, 0) = if D = 2 * c then none else some (1, 1) := by
  obtain ⟨h1, h2, h3, h4⟩ := stepF hc hD
  obtain ⟨r1, _, _⟩ := reachF_21 hc hD
  have hg := lkE_ok hc hD
  rw [reachO_eq hg, if_neg (by decide), show nextT 3 (lkE c D) (0, (0 : Int)).1 1 = _ from next_01 hc hD]
  by_cases hd : D = 2 * c
  · rw [if_pos hd, if_pos hd]
    show meetO [(stepO 3 (lkE c D) wF [true, false, false] 0 0 0).bind _, (stepO 3 (lkE c D) wF [true, false, false] 0 0 2).bind _] = none
    rw [h1, h2, Option.bind_some, Option.bind_none, r1]
    decide
  · rw [if_neg hd, if_neg hd]
    show meetO [(stepO 3 (lkE c D) wF [true, false, false] 0 0 2).bind _] = _
    rw [h2]
    exact r1
theorem compE : compS 3 (lkE c D) wE [] 3 = ([⟨true, 0⟩], 0) ∧ compS 3 (lkE c D) wE [] 0 = ([], 9) := by
  obtain ⟨h1, h2⟩ := stepE hc hD
  obtain ⟨r1, r2⟩ := reachE hc hD
  have s0 : segO 3 (lkE c D) wE [false, true, true] (0, 0) false 0 = none := seg_same rfl
  have s1 : segO 3 (lkE c D) wE [false, true, true] (0, 0) false 1 = none := (seg_node (by decide)).trans r1
  have s2 : segO 3 (lkE c D) wE [false, true, true] (0, 0) false 2 = none := (seg_node (by decide)).trans r2
  have s3 : segO 3 (lkE c D) wE [false, true, true] (0, 0) true 0 = some (1, 1) := seg_edge.trans h1
  have c0 : canS 3 (lkE c D) wE [false, true, true] 0 (0, 0) = false := by unfold canS; decide
  have c1 : canS 3 (lkE c D) wE [false, true, true] 0 (1, 1) = true := by unfold canS; decide
  have hf : (segsS 3 (lkE c D)).find? (fun s => goB (canS 3 (lkE c D) wE [false, true, true] 0) (segO 3 (lkE c D) wE [false, true, true] (0, 0) s.edge s.too)) = some ⟨true, 0⟩ := by
    rw [segs_E]
    simp only [List.find?, s0, s1, s2, s3, goB, c1]
  have c2 : canS 3 (lkE c D) wE [false, true, true] 1 (0, 0) = true := canS_more hf
  have hco := (cost_E hc hD).1
  have hpr := (pruned_E hc hD).1
  constructor
  · unfold compS
    rw [show (((3 : Nat) : Int)) = 3 from rfl, if_neg (fun h => h hco), hpr, show startS wE = (0, 0) from rfl, leastS_is (n := 1) (by decide) c2 (fun m hm => by
      obtain rfl : m = 0 := by omega
      exact c0)]
    show (pathS 3 (lkE c D) wE [false, true, true] 1 (0, 0), (0 : Int)) = _
    unfold pathS
    rw [hf]
    rfl
  · unfold compS
    rw [show (((3 : Nat) : Int)) = 3 from rfl, if_neg (fun h => h hco), hpr, show startS wE = (0, 0) from rfl, show cutD 0 = 0 from rfl]
    have : leastS 3 (lkE c D) wE [false, true, true] 0 (0, 0) = none := by
      unfold leastS
      show ([0] : List Nat).find? _ = none
      simp [List.find?, c0]
    rw [this]
theorem compF : compS 3 (lkE c D) wF [] 3 = (if D = 2 * c then [⟨false, 2⟩, ⟨false, 1⟩] else [⟨false, 1⟩], 0) := by
  obtain ⟨h1, h2, h3, h4⟩ := stepF hc hD
  obtain ⟨r1, r2, r3⟩ := reachF_21 hc hD
  have r4 := reachF_01 hc hD
  have hco := (cost_E hc hD).2
  have hpr := (pruned_E hc hD).2
  have c0 : canS 3 (lkE c D) wF [true, false, false] 0 (0, 0) = false := by unfold canS; decide
  have c1 : canS 3 (lkE c D) wF [true, false, false] 0 (1, 1) = true := by unfold canS; decide
  have c3 : canS 3 (lkE c D) wF [true, false, false] 0 (2, 0) = false := by unfold canS; decide
  have s0 : segO 3 (lkE c D) wF [true, false, false] (0, 0) false 0 = none := seg_same rfl
  have s1 := (seg_node (c := c) (D := D) (x := wF) (gn := [true, false, false]) (p := (0, 0)) (t := 1) (by decide)).trans r4
  have s2 : segO 3 (lkE c D) wF [true, false, false] (0, 0) false 2 = some (2, 0) := (seg_node (by decide)).trans r3
  by_cases hd : D = 2 * c
  · rw [if_pos hd] at s1 ⊢
    have e0 : segO 3 (lkE c D) wF [true, false, false] (0, 0) true 0 = none := seg_edge.trans h1
    have e1 : segO 3 (lkE c D) wF [true, false, false] (0, 0) true 1 = none := seg_edge.trans (step_off (by rw [(lkE_e).2.1]; decide))
    have e2 : segO 3 (lkE c D) wF [true, false, false] (0, 0) true 2 = some (2, 0) := seg_edge.trans h2
    have e3 : segO 3 (lkE c D) wF [true, false, false] (0, 0) true 3 = none := seg_edge.trans (step_off (by rw [(lkE_e).2.2.2.1]; decide))
    have e4 : segO 3 (lkE c D) wF [true, false, false] (0, 0) true 4 = none := seg_edge.trans (step_off (by rw [(lkE_e).2.2.2.2.1]; decide))
    have e5 : segO 3 (lkE c D) wF [true, false, false] (0, 0) true 5 = none := seg_edge.trans (step_off (by rw [(lkE_e).2.2.2.2.2]; decide))
    have n1 : canS 3 (lkE c D) wF [true, false, false] 1 (0, 0) = false := by
      unfold canS
      rw [segs_E]
      simp only [List.any_cons, List.any_nil, s0, s1, s2, e0, e1, e2, e3, e4, e5, goB, c3]
      rfl
    have t0 : segO 3 (lkE c D) wF [true, false, false] (2, 0) false 0 = none := (seg_node (by decide)).trans r2
    have t1 : segO 3 (lkE c D) wF [true, false, false] (2, 0) false 1 = some (1, 1) := (seg_node (by decide)).trans r1
    have hf2 : (segsS 3 (lkE c D)).find? (fun s => goB (canS 3 (lkE c D) wF [true, false, false] 0) (segO 3 (lkE c D) wF [true, false, false] (2, 0) s.edge s.too)) = some ⟨false, 1⟩ := by
      rw [segs_E]
      simp only [List.find?, t0, t1, goB, c1]
    have n2 : canS 3 (lkE c D) wF [true, false, false] 1 (2, 0) = true := canS_more hf2
    have hf : (segsS 3 (lkE c D)).find? (fun s => goB (canS 3 (lkE c D) wF [true, false, false] 1) (segO 3 (lkE c D) wF [true, false, false] (0, 0) s.edge s.too)) = some ⟨false, 2⟩ := by
      rw [segs_E]
      simp only [List.find?, s0, s1, s2, goB, n2]
    have n3 : canS 3 (lkE c D) wF [true, false, false] 2 (0, 0) = true := canS_more hf
    unfold compS
    rw [show (((3 : Nat) : Int)) = 3 from rfl, if_neg (fun h => h hco), hpr, show startS wF = (0, 0) from rfl, leastS_is (n := 2) (by decide) n3 (fun m hm => by
      rcases (show m = 0 ∨ m = 1 by omega) with rfl | rfl
      · exact c0
      · exact n1)]
    have p1 : pathS 3 (lkE c D) wF [true, false, false] 1 (2, 0) = [⟨false, 1⟩] := by
      unfold pathS
      rw [hf2]
      rfl
    have p2 : pathS 3 (lkE c D) wF [true, false, false] 2 (0, 0) = [⟨false, 2⟩, ⟨false, 1⟩] := by
      unfold pathS
      rw [hf]
      show (⟨false, 2⟩ : Sg) :: pathS 3 (lkE c D) wF [true, false, false] 1 ((segO 3 (lkE c D) wF [true, false, false] (0, 0) false 2).getD (0, 0)) = _
      rw [s2]
      show (⟨false, 2⟩ : Sg) :: pathS 3 (lkE c D) wF [true, false, false] 1 (2, 0) = _
      rw [p1]
    show (pathS 3 (lkE c D) wF [true, false, false] 2 (0, 0), (0 : Int)) = _
    rw [p2]
  · rw [if_neg hd] at s1 ⊢
    have hf : (segsS 3 (lkE c D)).find? (fun s => goB (canS 3 (lkE c D) wF [true, false, false] 0) (segO 3 (lkE c D) wF [true, false, false] (0, 0) s.edge s.too)) = some ⟨false, 1⟩ := by
      rw [segs_E]
      simp only [List.find?, s0, s1, goB, c1]
    have n3 : canS 3 (lkE c D) wF [true, false, false] 1 (0, 0) = true := canS_more hf
    unfold compS
    rw [show (((3 : Nat) : Int)) = 3 from rfl, if_neg (fun h => h hco), hpr, show startS wF = (0, 0) from rfl, leastS_is (n := 1) (by decide) n3 (fun m hm => by
      obtain rfl : m = 0 := by omega
      exact c0)]
    show (pathS 3 (lkE c D) wF [true, false, false] 1 (0, 0), (0 : Int)) = _
    unfold pathS
    rw [hf]
    rfl
end
end Go.Proofs.Ytgdbelccipjebaa

/- CompileEdges. -/
namespace Go.Proofs.Ytgdbelccipjebaa
open Go.RowKit
set_option maxHeartbeats 6400000
set_option maxRecDepth 100000
theorem rlnkE_new (w : World) (c D : Int) : RLnk (w.alloc (.cells #[.int .i64 0, .int .i64 1, .int .i64 D, .int .i64 0, .int .i64 0, .int .i64 2, .int .i64 c, .int .i64 0, .int .i64 2, .int .i64 1, .int .i64 c, .int .i64 0] 48)) (w.heap.size + 1) (some ⟨w.heap.size, 0, none⟩) 3 (lkE c D) := by
  refine ⟨rfl, fun _ => ⟨w.heap.size, 0, rfl, by omega, fun i e he => ?_⟩⟩
  have h := heap_alloc_new w (.cells #[.int .i64 0, .int .i64 1, .int .i64 D, .int .i64 0, .int .i64 0, .int .i64 2, .int .i64 c, .int .i64 0, .int .i64 2, .int .i64 1, .int .i64 c, .int .i64 0] 48)
  have hi : i < 3 := (List.getElem?_eq_some_iff.1 he).1
  rcases (show i = 0 ∨ i = 1 ∨ i = 2 by omega) with rfl | rfl | rfl
  all_goals
    injection he with he
    subst he
    refine ⟨?_, ?_, ?_, ?_⟩ <;> (rw [cell_of_row _ _ _ _ _ _ h]; rfl)
theorem edges_out {TabAt : World → Addr → Nat → List Lnk → Prop} (hN : NewOps TabAt 16) (hO : CompOps TabAt 11) (c D : Int) (w : World) (h : c < 1 ∨ 1000 < c ∨ D < 2 * c ∨ 100000 < D) :
    Calls Try.prog 5 #[.int .i64 c, .int .i64 D] w fun e w' => e = .returned (.bool true) ∧ Below w.heap.size w w' := by
  have HA := hid (alive17 hN hO)
  clear hN hO
  by_cases h1 : c < 1
  · have t1 : decide (c < 1) = true := decide_eq_true h1
    clear h
    go_enter Try.func5, Try.ntmps5
    go_wp2_with (go_at_call 7; (with_reducible refine (HA.out _).mono ?_); rintro e' w1 ⟨rfl, b1⟩)
    go_ret
    exact ⟨rfl, b1⟩
  · have t1 : decide (c < 1) = false := decide_eq_false h1
    by_cases h2 : 1000 < c
    · have t2 : decide (1000 < c) = true := decide_eq_true h2
      clear h
      go_enter Try.func5, Try.ntmps5
      go_wp2_with (go_at_call 7; (with_reducible refine (HA.out _).mono ?_); rintro e' w1 ⟨rfl, b1⟩)
      go_ret
      exact ⟨rfl, b1⟩
    · have t2 : decide (1000 < c) = false := decide_eq_false h2
      have ew : IntKind.i64.wrap (2 * c) = 2 * c := by rw [IntKind.wrap_i64]; omega
      by_cases h3 : D < 2 * c
      · have t3 : decide (D < 2 * c) = true := decide_eq_true h3
        clear h
        go_enter Try.func5, Try.ntmps5
        go_wp2_with (go_at_call 7; (with_reducible refine (HA.out _).mono ?_); rintro e' w1 ⟨rfl, b1⟩)
        go_ret
        exact ⟨rfl, b1⟩
      · have t3 : decide (D < 2 * c) = false := decide_eq_false h3
        have t4 : decide (100000 < D) = true := decide_eq_true (by omega)
        clear h
        go_enter Try.func5, Try.ntmps5
        go_wp2_with (go_at_call 7; (with_reducible refine (HA.out _).mono ?_); rintro e' w1 ⟨rfl, b1⟩)
        go_ret
        exact ⟨rfl, b1⟩
def yE (b : Nat) : WSl := ⟨none, 0, 0, some ⟨b, 0, none⟩, 1, 1, none, 0, 0, none, 0, 0⟩
def yF (b : Nat) : WSl := ⟨none, 0, 0, none, 0, 0, some ⟨b, 0, none⟩, 1, 1, none, 0, 0⟩
theorem larg_one {W : World} {b : Nat} {v : Int} (h : W.heap[b]? = some (.cells #[.int .i64 v] 3 (0, 0))) (hv : 0 ≤ v ∧ v ≤ 2) : LArg W (some ⟨b, 0, none⟩) 1 1 [v] := by
  refine ⟨⟨rfl, fun _ => ⟨b, 0, rfl, blk_lt h, fun i e he => ?_⟩⟩, Nat.le_refl _, fun h => (by cases h), by unfold maxLen; omega, fun x hx => ?_⟩
  · have hi : i = 0 := by
      have := (List.getElem?_eq_some_iff.1 he).1
      simp at this; omega
    subst hi
    simp at he
    subst he
    rw [cell_of_row _ _ _ _ _ _ h]; rfl
  · rw [List.mem_singleton] at hx
    subst hx
    omega
/-- The box of the first want and its row. -/
def EdSt (b : Nat) (W : World) : Prop := W.heap[b]? = some (.cells #[.int .i64 2] 3 (0, 0)) ∧ W.heap[b + 1]? = some (.cells #[.int .i64 0, .int .i64 1, .int .i64 0, .slice none 0 0, .slice (some ⟨b, 0, none⟩) 1 1, .slice none 0 0, .slice none 0 0] 27 (0, 0))
theorem EdSt.on {b : Nat} {W W' : World} (h : EdSt b W) (hb : Below W.heap.size W W') : EdSt b W' := ⟨box_below h.1 hb (blk_lt h.1), box_below h.2 hb (blk_lt h.2)⟩
theorem edSt_new (w : World) : EdSt w.heap.size ((w.alloc (.cells #[.int .i64 2] 3)).alloc (.cells #[.int .i64 0, .int .i64 1, .int .i64 0, .slice none 0 0, .slice (some ⟨w.heap.size, 0, none⟩) 1 1, .slice none 0 0, .slice none 0 0] 27)) := by
  obtain ⟨w2, hw2⟩ : ∃ w2, w.alloc (.cells #[.int .i64 2] 3) = w2 := ⟨_, rfl⟩
  have h0 := heap_alloc_new w (.cells #[.int .i64 2] 3)
  have hs2 : w2.heap.size = w.heap.size + 1 := by rw [← hw2]; simp
  rw [hw2] at h0 ⊢
  have e1 := heap_alloc_new w2 (.cells #[.int .i64 0, .int .i64 1, .int .i64 0, .slice none 0 0, .slice (some ⟨w.heap.size, 0, none⟩) 1 1, .slice none 0 0, .slice none 0 0] 27)
  rw [hs2] at e1
  refine ⟨box_below h0 ((Below.refl _ _).alloc (Nat.le_refl _) _) (blk_lt h0), e1⟩
theorem seg_one {W : World} {B b o : Nat} {s : Sg} (h : RSeg W B (some ⟨b, o, none⟩) 1 [s]) : W.cell? ⟨b, o, none⟩ = some (.bool s.edge) ∧ W.cell? ⟨b, o + 1, none⟩ = some (.int .i64 s.too) := by
  obtain ⟨b', o', he, _, hc⟩ := h.2 (by decide)
  cases he
  exact hc 0 s rfl
theorem seg_two {W : World} {B b o : Nat} {s t : Sg} (h : RSeg W B (some ⟨b, o, none⟩) 2 [s, t]) : W.cell? ⟨b, o, none⟩ = some (.bool s.edge) ∧ W.cell? ⟨b, o + 1, none⟩ = some (.int .i64 s.too) ∧ W.cell? ⟨b, o + 2, none⟩ = some (.bool t.edge) ∧ W.cell? ⟨b, o + 2 + 1, none⟩ = some (.int .i64 t.too) := by
  obtain ⟨b', o', he, _, hc⟩ := h.2 (by decide)
  cases he
  obtain ⟨h0, h1⟩ := hc 0 s rfl
  obtain ⟨h2, h3⟩ := hc 1 t rfl
  exact ⟨h0, h1, h2, h3⟩
theorem edBelow (w : World) : Below w.heap.size w ((w.alloc (.cells #[.int .i64 2] 3)).alloc (.cells #[.int .i64 0, .int .i64 1, .int .i64 0, .slice none 0 0, .slice (some ⟨w.heap.size, 0, none⟩) 1 1, .slice none 0 0, .slice none 0 0] 27)) := ((Below.refl w.heap.size w).alloc (Nat.le_refl _) _).alloc (by simp) _
theorem EdSt.cells {b : Nat} {W : World} (h : EdSt b W) : W.cell? ⟨b + 1, 0, none⟩ = some (.int .i64 0) ∧ W.cell? ⟨b + 1, 1, none⟩ = some (.int .i64 1) ∧ W.cell? ⟨b + 1, 2, none⟩ = some (.int .i64 0) ∧ W.cell? ⟨b + 1, 3, none⟩ = some (.slice none 0 0) ∧ W.cell? ⟨b + 1, 4, none⟩ = some (.slice (some ⟨b, 0, none⟩) 1 1) ∧ W.cell? ⟨b + 1, 5, none⟩ = some (.slice none 0 0) ∧ W.cell? ⟨b + 1, 6, none⟩ = some (.slice none 0 0) := by
  refine ⟨?_, ?_, ?_, ?_, ?_, ?_, ?_⟩ <;> (rw [cell_of_row _ _ _ _ _ _ h.2]; rfl)
theorem edges_in {TabAt : World → Addr → Nat → List Lnk → Prop} (hN : NewOps TabAt 16) (hO : CompOps TabAt 11) (c D : Int) (w : World) (hc : 1 ≤ c ∧ c ≤ 1000) (hD : 2 * c ≤ D ∧ D ≤ 100000) :
    Calls Try.prog 5 #[.int .i64 c, .int .i64 D] w fun e w' => e = .returned (.bool true) ∧ Below w.heap.size w w' := by
  have HA := hid (alive17 hN hO w)
  have t1 : decide (c < 1) = false := decide_eq_false (by omega)
  have t2 : decide (1000 < c) = false := decide_eq_false (by omega)
  have t3 : decide (D < 2 * c) = false := decide_eq_false (by omega)
  have t4 : decide (100000 < D) = false := decide_eq_false (by omega)
  have ew : IntKind.i64.wrap (2 * c) = 2 * c := by rw [IntKind.wrap_i64]; omega
  have HT := hid (show ∀ w1 : World, Below w.heap.size w w1 → Calls Try.prog 10 #[.agg #[.int .i64 3, .slice (some ⟨w1.heap.size, 0, none⟩) 3 3]] (w1.alloc (.cells #[.int .i64 0, .int .i64 1, .int .i64 D, .int .i64 0, .int .i64 0, .int .i64 2, .int .i64 c, .int .i64 0, .int .i64 2, .int .i64 1, .int .i64 c, .int .i64 0] 48)) fun e w' => Below w.heap.size w w' ∧ ∃ p pr : Addr, e = .returned (.tuple #[.pointer (some p), .pointer (some pr), .bool true]) ∧ TabAt w' p 3 (lkE c D) from fun w1 hb1 => by
    have hb0 : Below w.heap.size w (w1.alloc (.cells #[.int .i64 0, .int .i64 1, .int .i64 D, .int .i64 0, .int .i64 0, .int .i64 2, .int .i64 c, .int .i64 0, .int .i64 2, .int .i64 1, .int .i64 c, .int .i64 0] 48)) := hb1.alloc hb1.size _
    refine (tabs_any hN 3 (some ⟨w1.heap.size, 0, none⟩) 3 3 (lkE c D) _ ⟨(rlnkE_new w1 c D).more (by simp), by unfold maxLen; omega, by omega, fun h => (by cases h), by omega, by omega⟩).mono ?_
    rintro e w' ⟨hb, h1 | h1⟩
    · obtain ⟨_, N, p, pr, h2, h3, h4, _⟩ := h1
      obtain rfl : N = 3 := by omega
      exact ⟨hb0.trans (hb.mono hb0.size), p, pr, h3, h4⟩
    · exact (h1.1 (gok_check (lkE_ok hc hD))).elim)
  have HL := hid (show ∀ (W : World) (p : Addr) (b : Nat), TabAt W p 3 (lkE c D) → EdSt b W → Calls Try.prog 11 #[.pointer (some p), .agg #[.int .i64 0, .int .i64 1, .int .i64 0, .slice none 0 0, .slice (some ⟨b, 0, none⟩) 1 1, .slice none 0 0, .slice none 0 0], .slice none 0 0, .int .i64 3] W fun e w' => ∃ b5 o5 c5, e = .returned (.tuple #[.slice (some ⟨b5, o5, none⟩) 1 c5, .int .i64 0]) ∧ RSeg w' w'.heap.size (some ⟨b5, o5, none⟩) 1 [⟨true, 0⟩] ∧ Below W.heap.size W w' from fun W p b ht hs => by
    have := hO W p 3 (lkE c D) wE (yE b) none 0 0 [] 3 ht (lkE_ok hc hD) (by decide) (by show 3 ≤ 16; omega) ⟨larg_nil W, larg_one hs.1 (by omega), larg_nil W, larg_nil W, by decide⟩ (DArg.nil W) (Nat.zero_le _) (show 1 ≤ 100 by omega) (Nat.zero_le _) (Nat.zero_le _) ⟨by omega, by omega⟩
    rw [(compE hc hD).1] at this
    refine this.mono ?_
    rintro e w' ⟨A, c5, h1, h2, h3⟩
    obtain ⟨b5, o5, rfl, -, -⟩ := h2.2 (by decide)
    exact ⟨b5, o5, c5, h1, h2, h3⟩)
  have HM := hid (show ∀ (W : World) (p : Addr) (b : Nat), TabAt W p 3 (lkE c D) → EdSt b W → Calls Try.prog 11 #[.pointer (some p), .agg #[.int .i64 0, .int .i64 1, .int .i64 0, .slice none 0 0, .slice (some ⟨b, 0, none⟩) 1 1, .slice none 0 0, .slice none 0 0], .slice none 0 0, .int .i64 0] W fun e w' => (∃ A c5, e = .returned (.tuple #[.slice A 0 c5, .int .i64 9])) ∧ Below W.heap.size W w' from fun W p b ht hs => by
    have := hO W p 3 (lkE c D) wE (yE b) none 0 0 [] 0 ht (lkE_ok hc hD) (by decide) (by show 3 ≤ 16; omega) ⟨larg_nil W, larg_one hs.1 (by omega), larg_nil W, larg_nil W, by decide⟩ (DArg.nil W) (Nat.zero_le _) (show 1 ≤ 100 by omega) (Nat.zero_le _) (Nat.zero_le _) ⟨by omega, by omega⟩
    rw [(compE hc hD).2] at this
    refine this.mono ?_
    rintro e w' ⟨A, c5, h1, h2, h3⟩
    exact ⟨⟨A, c5, h1⟩, h3⟩)
  have HN := hid (show ∀ (W : World) (p : Addr), TabAt W p 3 (lkE c D) → Calls Try.prog 11 #[.pointer (some p), .agg #[.int .i64 0, .int .i64 1, .int .i64 0, .slice none 0 0, .slice none 0 0, .slice (some ⟨W.heap.size, 0, none⟩) 1 1, .slice none 0 0], .slice none 0 0, .int .i64 3] (W.alloc (.cells #[.int .i64 0] 3)) fun e w' => (∃ A c5, e = .returned (.tuple #[.slice A (if D = 2 * c then [⟨false, 2⟩, ⟨false, 1⟩] else [⟨false, 1⟩] : List Sg).length c5, .int .i64 0]) ∧ RSeg w' w'.heap.size A (if D = 2 * c then [⟨false, 2⟩, ⟨false, 1⟩] else [⟨false, 1⟩] : List Sg).length (if D = 2 * c then [⟨false, 2⟩, ⟨false, 1⟩] else [⟨false, 1⟩] : List Sg)) ∧ Below W.heap.size W w' from fun W p ht => by
    have hb := (Below.refl W.heap.size W).alloc (Nat.le_refl _) (.cells #[.int .i64 0] 3)
    have := hO (W.alloc (.cells #[.int .i64 0] 3)) p 3 (lkE c D) wF (yF W.heap.size) none 0 0 [] 3 (hN.1 _ _ _ _ _ ht hb) (lkE_ok hc hD) (by decide) (by show 3 ≤ 16; omega) ⟨larg_nil _, larg_nil _, larg_one (heap_alloc_new W _) (by omega), larg_nil _, by decide⟩ (DArg.nil _) (Nat.zero_le _) (Nat.zero_le _) (show 1 ≤ 100 by omega) (Nat.zero_le _) ⟨by omega, by omega⟩
    rw [compF hc hD] at this
    refine this.mono ?_
    rintro e w' ⟨A, c5, h1, h2, h3⟩
    exact ⟨⟨A, c5, h1, h2⟩, hb.trans (h3.mono hb.size)⟩)
  have HNum := hid cnum_any
  have HK := hid hN.1
  clear hN hO
  have qn := fun W => seg_ne ⟨true, 0⟩ ⟨true, 0⟩ W
  have qe1 := fun W => seg_eq ⟨false, 1⟩ ⟨false, 1⟩ W
  have qe2 := fun W => seg_eq ⟨false, 2⟩ ⟨false, 2⟩ W
  by_cases hd : D = 2 * c
  · have HN' := hid (show ∀ (W : World) (p : Addr), TabAt W p 3 (lkE c D) → Calls Try.prog 11 #[.pointer (some p), .agg #[.int .i64 0, .int .i64 1, .int .i64 0, .slice none 0 0, .slice none 0 0, .slice (some ⟨W.heap.size, 0, none⟩) 1 1, .slice none 0 0], .slice none 0 0, .int .i64 3] (W.alloc (.cells #[.int .i64 0] 3)) fun e w' => (∃ b6 o6 c7, e = .returned (.tuple #[.slice (some ⟨b6, o6, none⟩) 2 c7, .int .i64 0]) ∧ RSeg w' w'.heap.size (some ⟨b6, o6, none⟩) 2 [⟨false, 2⟩, ⟨false, 1⟩]) ∧ Below W.heap.size W w' from fun W p ht => by
      have := HN.out W p ht
      simp only [if_pos hd] at this
      refine this.mono ?_
      rintro e w' ⟨⟨A, c5, h1, h2⟩, h3⟩
      obtain ⟨b6, o6, rfl, -, -⟩ := h2.2 (by decide)
      exact ⟨⟨b6, o6, c5, h1, h2⟩, h3⟩)
    have t5 : (D == 2 * c) = true := beq_iff_eq.2 hd
    clear HN hd hc hD
    go_enter Try.func5, Try.ntmps5
    go_wp2_with (first
      | (go_at_call 7; (with_reducible refine HA.out.mono ?_); rintro e' w1 ⟨rfl, b1⟩; have B1 := hid b1)
      | (go_at_call 10; (with_reducible refine (HT.out _ B1.out).mono ?_); rintro e' w2 ⟨b2, p, pr, rfl, ht2⟩; have B2 := hid b2; have HT2 := hid ht2; have HE2 := hid (edSt_new w2); have hbx := edBelow w2; have HT3 := hid (HK.out _ _ _ _ _ HT2.out hbx); have B3 := hid (B2.out.trans (hbx.mono B2.out.size)); clear b2 ht2 hbx)
      | (go_at_call 11; (with_reducible refine (HL.out _ _ _ HT3.out HE2.out).mono ?_); rintro e' w4 ⟨b5, o5, c5, rfl, hs4, hb4⟩; have B4 := hid (B3.out.trans (hb4.mono B3.out.size)); have HT4 := hid (HK.out _ _ _ _ _ HT3.out hb4); have HE4 := hid (HE2.out.on hb4); have HS4 := hid hs4; obtain ⟨g0, g1, g2, g3, g4, g5, g6⟩ := HE4.out.cells; clear hs4 hb4)
      | (go_at_call 11; (with_reducible refine (HM.out _ _ _ HT4.out HE4.out).mono ?_); rintro e' w5 ⟨⟨A5, c6, rfl⟩, hb5⟩; have B5 := hid (B4.out.trans (hb5.mono B4.out.size)); have HT5 := hid (HK.out _ _ _ _ _ HT4.out hb5); have HS5 := hid (HS4.out.on hb5); clear hb5)
      | (go_at_call 11; (with_reducible refine (HN'.out _ _ HT5.out).mono ?_); rintro e' w6 ⟨⟨b6, o6, c7, rfl, hs6⟩, hb6⟩; have B6 := hid (B5.out.trans (hb6.mono B5.out.size)); have HS6 := hid (HS5.out.on hb6); obtain ⟨y0, y1⟩ := seg_one HS6.out; obtain ⟨z0, z1, z2, z3⟩ := seg_two hs6; clear hb6 hs6)
      | (go_at_call 14; (with_reducible refine (HNum.out _ _).mono ?_); rintro _ _ ⟨rfl, rfl⟩))
    go_ret
    exact ⟨rfl, B6.out⟩
  · have HN' := hid (show ∀ (W : World) (p : Addr), TabAt W p 3 (lkE c D) → Calls Try.prog 11 #[.pointer (some p), .agg #[.int .i64 0, .int .i64 1, .int .i64 0, .slice none 0 0, .slice none 0 0, .slice (some ⟨W.heap.size, 0, none⟩) 1 1, .slice none 0 0], .slice none 0 0, .int .i64 3] (W.alloc (.cells #[.int .i64 0] 3)) fun e w' => (∃ b6 o6 c7, e = .returned (.tuple #[.slice (some ⟨b6, o6, none⟩) 1 c7, .int .i64 0]) ∧ RSeg w' w'.heap.size (some ⟨b6, o6, none⟩) 1 [⟨false, 1⟩]) ∧ Below W.heap.size W w' from fun W p ht => by
      have := HN.out W p ht
      simp only [if_neg hd] at this
      refine this.mono ?_
      rintro e w' ⟨⟨A, c5, h1, h2⟩, h3⟩
      obtain ⟨b6, o6, rfl, -, -⟩ := h2.2 (by decide)
      exact ⟨⟨b6, o6, c5, h1, h2⟩, h3⟩)
    have t5 : (D == 2 * c) = false := beq_eq_false_iff_ne.2 hd
    clear HN hd hc hD
    go_enter Try.func5, Try.ntmps5
    go_wp2_with (first
      | (go_at_call 7; (with_reducible refine HA.out.mono ?_); rintro e' w1 ⟨rfl, b1⟩; have B1 := hid b1)
      | (go_at_call 10; (with_reducible refine (HT.out _ B1.out).mono ?_); rintro e' w2 ⟨b2, p, pr, rfl, ht2⟩; have B2 := hid b2; have HT2 := hid ht2; have HE2 := hid (edSt_new w2); have hbx := edBelow w2; have HT3 := hid (HK.out _ _ _ _ _ HT2.out hbx); have B3 := hid (B2.out.trans (hbx.mono B2.out.size)); clear b2 ht2 hbx)
      | (go_at_call 11; (with_reducible refine (HL.out _ _ _ HT3.out HE2.out).mono ?_); rintro e' w4 ⟨b5, o5, c5, rfl, hs4, hb4⟩; have B4 := hid (B3.out.trans (hb4.mono B3.out.size)); have HT4 := hid (HK.out _ _ _ _ _ HT3.out hb4); have HE4 := hid (HE2.out.on hb4); have HS4 := hid hs4; obtain ⟨g0, g1, g2, g3, g4, g5, g6⟩ := HE4.out.cells; clear hs4 hb4)
      | (go_at_call 11; (with_reducible refine (HM.out _ _ _ HT4.out HE4.out).mono ?_); rintro e' w5 ⟨⟨A5, c6, rfl⟩, hb5⟩; have B5 := hid (B4.out.trans (hb5.mono B4.out.size)); have HT5 := hid (HK.out _ _ _ _ _ HT4.out hb5); have HS5 := hid (HS4.out.on hb5); clear hb5)
      | (go_at_call 11; (with_reducible refine (HN'.out _ _ HT5.out).mono ?_); rintro e' w6 ⟨⟨b6, o6, c7, rfl, hs6⟩, hb6⟩; have B6 := hid (B5.out.trans (hb6.mono B5.out.size)); have HS6 := hid (HS5.out.on hb6); obtain ⟨y0, y1⟩ := seg_one HS6.out; obtain ⟨z0, z1⟩ := seg_one hs6; clear hb6 hs6)
      | (go_at_call 14; (with_reducible refine (HNum.out _ _).mono ?_); rintro _ _ ⟨rfl, rfl⟩))
    go_ret
    exact ⟨rfl, B6.out⟩
theorem edges_any {TabAt : World → Addr → Nat → List Lnk → Prop} (hN : NewOps TabAt 16) (hO : CompOps TabAt 11) (c D : Int) (w : World) :
    Calls Try.prog 5 #[.int .i64 c, .int .i64 D] w fun e w' => e = .returned (.bool true) ∧ Below w.heap.size w w' := by
  by_cases h : c < 1 ∨ 1000 < c ∨ D < 2 * c ∨ 100000 < D
  · exact edges_out hN hO c D w h
  · exact edges_in hN hO c D w (by omega) (by omega)
end Go.Proofs.Ytgdbelccipjebaa
