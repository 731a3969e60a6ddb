/- Costs without exclusions: plain facts. -/
import Derived.Test.YtabgbhkpeeibaaaOpT
namespace Go.Proofs.Ytabgbhkpeeibaaa
open Go.RowKit
set_option maxHeartbeats 6400000
set_option maxRecDepth 100000
theorem distOk_congr {nd : Nat} {l : List Lnk} {dn dn' : List Bool} {s : Nat} {d : List Int} (h : ∀ i, i < l.length → isDn dn i = isDn dn' i) (hd : DistOk nd l dn s d) : DistOk nd l dn' s d :=
  ⟨hd.len, hd.src, hd.low, fun k hk hu => hd.clo k hk (by rw [h _ (by omega)]; exact hu), fun v hv hs h0 => by
    obtain ⟨k, hk, hu, h1⟩ := hd.via v hv hs h0
    exact ⟨k, hk, by rw [← h _ (by omega)]; exact hu, h1⟩⟩
theorem fromS_congr {nd : Int} {l : List Lnk} {dn dn' : List Bool} {a : Int} (h : ∀ i, i < l.length → isDn dn i = isDn dn' i) : fromS nd l dn a = fromS nd l dn' a := by
  unfold fromS
  split
  · rename_i hh
    obtain ⟨hck, h0, h1⟩ := hh
    obtain ⟨N, rfl⟩ := Int.eq_ofNat_of_zero_le (show 0 ≤ nd by omega)
    obtain ⟨S, rfl⟩ := Int.eq_ofNat_of_zero_le h0
    have hg := gok_of hck
    exact distS_eq hg (distOk_congr (fun i hi => (h i hi).symm) (dist_ok (dn := dn') hg (by omega)))
  · rfl
theorem fromS_self {nd : Int} {l : List Lnk} {dn : List Bool} {a : Int} (hck : (checkS nd l).2 = 0) (ha : 0 ≤ a ∧ a < nd) : dAt (fromS nd l dn a) a = 0 := by
  unfold fromS
  rw [if_pos ⟨hck, ha.1, ha.2⟩]
  obtain ⟨N, rfl⟩ := Int.eq_ofNat_of_zero_le (show 0 ≤ nd by omega)
  obtain ⟨S, rfl⟩ := Int.eq_ofNat_of_zero_le ha.1
  exact (dist_ok (gok_of hck) (by omega)).src
/-- A want without exclusions. -/
def wV (f t b : Int) (v : List Int) : Wnt := ⟨f, t, b, v, [], [], []⟩
theorem wV_right {nd : Int} {l : List Lnk} {f t b : Int} {v : List Int} (hck : (checkS nd l).2 = 0) (hf : 0 ≤ f ∧ f < nd) (ht : 0 ≤ t ∧ t < nd) (hb : 0 ≤ b) (hv : ∀ u ∈ v, 0 ≤ u ∧ u < nd) (hl : v.length ≤ 4) : rightS nd l (wV f t b v) = 0 := by
  have hn : ∀ u : Int, 0 ≤ u ∧ u < nd → nodeB nd u = true := fun u hu => by simp [nodeB, hu.1, hu.2]
  have hbad : badB nd (wV f t b v) = false := by
    unfold badB wV
    simp only [hn f hf, hn t ht, Bool.not_true, Bool.false_or, List.any_nil, Bool.or_false, List.any_eq_false]
    intro u hu
    simp [hn u (hv u hu)]
  unfold rightS
  rw [if_neg (by simp [hck]), hbad]
  simp only [wV, List.any_nil]
  simp
  omega
theorem wV_isDn {nd : Int} {l : List Lnk} {f t b : Int} {v : List Int} (i : Nat) (hi : i < l.length) : isDn (prunedS nd l (wV f t b v) []) i = isDn [] i := by
  unfold prunedS
  split
  · have : ∀ j, cutB l (wV f t b v) [] j = false := fun j => by simp [cutB, wV, isDn]
    simp [isDn, this, List.getD_eq_getElem?_getD, hi]
  · rfl
theorem wV_from {nd : Int} {l : List Lnk} {f t b a : Int} {v : List Int} : fromS nd l (prunedS nd l (wV f t b v) []) a = fromS nd l [] a := fromS_congr wV_isDn
theorem legsS_congr {nd : Int} {l : List Lnk} {dn dn' : List Bool} (h : ∀ a, fromS nd l dn a = fromS nd l dn' a) : ∀ (p : List Int) (a : Int), legsS nd l dn a p = legsS nd l dn' a p
  | [], _ => rfl
  | b :: p, a => by rw [legsS, legsS, h a, legsS_congr h p b]
theorem wV_cost {nd : Int} {l : List Lnk} {f t b : Int} {v : List Int} (h : rightS nd l (wV f t b v) = 0) : costS nd l (wV f t b v) [] = costL b (legsS nd l [] f (v ++ [t])) := by
  rw [costS_L h, legsS_congr (fun a => wV_from)]
  rfl
theorem legs_one {nd : Int} {l : List Lnk} {f t : Int} : legsS nd l [] f [t] = if dAt (fromS nd l [] f) t < 0 then none else some (dAt (fromS nd l [] f) t) := by
  rw [legsS]
  split
  · rfl
  · simp [legsS]
theorem via_none {nd : Int} {l : List Lnk} {f t b : Int} (hck : (checkS nd l).2 = 0) (hf : 0 ≤ f ∧ f < nd) (ht : 0 ≤ t ∧ t < nd) (hb : 0 ≤ b) (hd : dAt (fromS nd l [] f) t < 0) : costS nd l (wV f t b []) [] = (0, 8) := by
  rw [wV_cost (wV_right hck hf ht hb (by simp) (by simp)), List.nil_append, legs_one, if_pos hd]
  rfl
theorem via_some {nd : Int} {l : List Lnk} {f t b : Int} (hck : (checkS nd l).2 = 0) (hf : 0 ≤ f ∧ f < nd) (ht : 0 ≤ t ∧ t < nd) (hb : 0 ≤ b) (hd : 0 ≤ dAt (fromS nd l [] f) t) : costS nd l (wV f t b []) [] = if 0 < b ∧ b < dAt (fromS nd l [] f) t then (0, 8) else (dAt (fromS nd l [] f) t, 0) := by
  rw [wV_cost (wV_right hck hf ht hb (by simp) (by simp)), List.nil_append, legs_one, if_neg (by omega)]
  rfl
theorem via_three {nd : Int} {l : List Lnk} {f t : Int} (hck : (checkS nd l).2 = 0) (hf : 0 ≤ f ∧ f < nd) (ht : 0 ≤ t ∧ t < nd) (hd : 0 ≤ dAt (fromS nd l [] f) t) : costS nd l (wV f t 0 [f, t, t]) [] = (dAt (fromS nd l [] f) t, 0) := by
  rw [wV_cost (wV_right hck hf ht (Int.le_refl _) (by simp; omega) (by simp))]
  have h1 := fromS_self (dn := []) hck hf
  have h2 := fromS_self (dn := []) hck ht
  show costL 0 (legsS nd l [] f [f, t, t, t]) = _
  rw [legsS_some (by omega), legsS_some (by omega), legsS_some (by omega), legsS_some (by omega)]
  simp only [legsS, Option.map_some, h1, h2, costL]
  simp
theorem fromS_get {nd : Int} {l : List Lnk} {f t : Int} (hck : (checkS nd l).2 = 0) (hf : 0 ≤ f ∧ f < nd) (ht : 0 ≤ t ∧ t < nd) : (fromS nd l [] f).length = nd.toNat ∧ (fromS nd l [] f)[t.toNat]? = some (dAt (fromS nd l [] f) t) ∧ dAt (fromS nd l [] f) t ≤ 654311424 ∧ -1 ≤ dAt (fromS nd l [] f) t := by
  obtain ⟨h1, h2⟩ := fromS_row (gn := []) hck hf
  obtain ⟨h3, h4, h5⟩ := h2 t ht.1 ht.2
  exact ⟨h1, h3, h5, h4⟩
end Go.Proofs.Ytabgbhkpeeibaaa
