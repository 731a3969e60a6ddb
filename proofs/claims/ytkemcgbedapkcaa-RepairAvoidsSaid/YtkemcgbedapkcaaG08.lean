/- Merged: TbA TbB TbE TbC. -/
import Derived.Test.YtkemcgbedapkcaaG03
import Derived.Test.YtkemcgbedapkcaaG01
/- Shortest ways between all nodes, plainly: as far there as back, no way over a third node shorter; the edges that go on. -/
namespace Go.Proofs.Ytkemcgbedapkcaa
open Go.RowKit
set_option maxHeartbeats 1600000
set_option maxRecDepth 100000
theorem edge_back {nd : Nat} {l : List Lnk} (hg : GOk nd l) {k : Nat} (hk : k < 2 * l.length) : ∃ k', k' < 2 * l.length ∧ k' / 2 = k / 2 ∧ frm l k' = tov l k ∧ tov l k' = frm l k ∧ met l k' = met l k := by
  obtain ⟨a, b, x, hx, he, hf, ht, hm, _⟩ := edge_facts hg hk
  have h1 := endsS_some hx
  rcases Nat.mod_two_eq_zero_or_one k with h | h
  · have hx' : l[(k + 1) / 2]? = some x := by rw [show (k + 1) / 2 = k / 2 by omega]; exact hx
    have h2 := endsS_some hx'
    rw [if_pos h] at h1
    rw [if_neg (by omega)] at h2
    refine ⟨k + 1, by omega, by omega, ?_, ?_, ?_⟩
    · unfold frm tov; rw [h2, h1]
    · unfold frm tov; rw [h2, h1]
    · unfold met; rw [show (k + 1) / 2 = k / 2 by omega]
  · have hx' : l[(k - 1) / 2]? = some x := by rw [show (k - 1) / 2 = k / 2 by omega]; exact hx
    have h2 := endsS_some hx'
    rw [if_neg (by omega)] at h1
    rw [if_pos (by omega)] at h2
    refine ⟨k - 1, by omega, by omega, ?_, ?_, ?_⟩
    · unfold frm tov; rw [h2, h1]
    · unfold frm tov; rw [h2, h1]
    · unfold met; rw [show (k - 1) / 2 = k / 2 by omega]
theorem dist_tri {nd : Nat} {l : List Lnk} {dn : List Bool} {s u : Nat} {d d' : List Int} (hg : GOk nd l) (h : DistOk nd l dn s d) (h' : DistOk nd l dn u d') (h0 : 0 ≤ dAt d (u : Int)) :
    ∀ (N : Nat) (v : Nat), v < nd → 0 ≤ dAt d' (v : Int) → dAt d' (v : Int) ≤ (N : Int) → 0 ≤ dAt d (v : Int) ∧ dAt d (v : Int) ≤ dAt d (u : Int) + dAt d' (v : Int) := by
  intro N
  induction N with
  | zero =>
    intro v hv h1 h2
    by_cases hu : v = u
    · subst hu; rw [h'.src]; omega
    · obtain ⟨k, hk, _, ht, hf, he⟩ := h'.via v hv hu h1
      obtain ⟨a, b, x, _, _, hfa, _, hm, _, _, _, hm1, _⟩ := edge_facts hg hk
      omega
  | succ N ih =>
    intro v hv h1 h2
    by_cases hu : v = u
    · subst hu; rw [h'.src]; omega
    · obtain ⟨k, hk, hup, ht, hf, he⟩ := h'.via v hv hu h1
      obtain ⟨a, b, x, _, _, hfa, _, hm, ha, _, _, hm1, _⟩ := edge_facts hg hk
      rw [hfa] at hf he
      obtain ⟨i1, i2⟩ := ih a ha hf (by omega)
      have := h.clo k hk hup (by rw [hfa]; exact i1)
      rw [ht, hfa] at this
      omega
theorem dist_back {nd : Nat} {l : List Lnk} {dn : List Bool} {s : Nat} (hg : GOk nd l) (hs : s < nd) :
    ∀ (N : Nat) (v : Nat), v < nd → 0 ≤ dAt (distS nd l dn s) (v : Int) → dAt (distS nd l dn s) (v : Int) ≤ (N : Int) → 0 ≤ dAt (distS nd l dn v) (s : Int) ∧ dAt (distS nd l dn v) (s : Int) ≤ dAt (distS nd l dn s) (v : Int) := by
  have h := dist_ok (dn := dn) hg hs
  intro N
  induction N with
  | zero =>
    intro v hv h1 h2
    by_cases hu : v = s
    · subst hu; omega
    · obtain ⟨k, hk, _, ht, hf, he⟩ := h.via v hv hu h1
      obtain ⟨a, b, x, _, _, hfa, _, hm, _, _, _, hm1, _⟩ := edge_facts hg hk
      omega
  | succ N ih =>
    intro v hv h1 h2
    by_cases hu : v = s
    · subst hu; omega
    · obtain ⟨k, hk, hup, ht, hf, he⟩ := h.via v hv hu h1
      obtain ⟨a, b, x, _, _, hfa, _, hm, ha, _, _, hm1, _⟩ := edge_facts hg hk
      rw [hfa] at hf he
      obtain ⟨i1, i2⟩ := ih a ha hf (by omega)
      have hv2 := dist_ok (dn := dn) hg hv
      have ha2 := dist_ok (dn := dn) hg ha
      obtain ⟨k', hk', hkk, hf', ht', hm'⟩ := edge_back hg hk
      have hc := hv2.clo k' hk' (by rw [hkk]; exact hup) (by rw [hf', ht, hv2.src]; omega)
      rw [ht', hf', hm', ht, hfa, hv2.src] at hc
      have := dist_tri hg hv2 ha2 hc.1 (dAt (distS nd l dn a) (s : Int)).toNat s hs i1 (by omega)
      omega
theorem dist_sym {nd : Nat} {l : List Lnk} {dn : List Bool} {a b : Nat} (hg : GOk nd l) (ha : a < nd) (hb : b < nd) : dAt (distS nd l dn a) (b : Int) = dAt (distS nd l dn b) (a : Int) := by
  have h1 := (dist_ok (dn := dn) hg ha).low b hb
  have h2 := (dist_ok (dn := dn) hg hb).low a ha
  by_cases c1 : 0 ≤ dAt (distS nd l dn a) (b : Int)
  · have h3 := dist_back hg ha (dAt (distS nd l dn a) (b : Int)).toNat b hb c1 (by omega)
    have h4 := dist_back hg hb (dAt (distS nd l dn b) (a : Int)).toNat a ha h3.1 (by omega)
    omega
  · by_cases c2 : 0 ≤ dAt (distS nd l dn b) (a : Int)
    · have h4 := dist_back hg hb (dAt (distS nd l dn b) (a : Int)).toNat a ha c2 (by omega)
      omega
    · omega
/-- What Dist tells. -/
noncomputable def distT (nd : Nat) (l : List Lnk) (a b : Int) : Int := if 0 ≤ a ∧ a < nd ∧ 0 ≤ b ∧ b < nd then dAt (distS nd l [] a.toNat) b else -1
/-- What Next tells. -/
noncomputable def nextT (nd : Nat) (l : List Lnk) (a b : Int) : List Int := if 0 ≤ b ∧ b < nd then nextS nd l [] (distS nd l [] b.toNat) a else []
theorem distT_in {nd : Nat} {l : List Lnk} {a b : Nat} (ha : a < nd) (hb : b < nd) : distT nd l (a : Int) (b : Int) = dAt (distS nd l [] a) (b : Int) := by
  unfold distT
  rw [if_pos ⟨by omega, by omega, by omega, by omega⟩, Int.toNat_natCast]
theorem distT_cases (nd : Nat) (a b : Int) : (∃ A B : Nat, a = (A : Int) ∧ b = (B : Int) ∧ A < nd ∧ B < nd) ∨ ¬(0 ≤ a ∧ a < nd ∧ 0 ≤ b ∧ b < nd) := by
  by_cases h : 0 ≤ a ∧ a < nd ∧ 0 ≤ b ∧ b < nd
  · obtain ⟨A, rfl⟩ := Int.eq_ofNat_of_zero_le h.1
    obtain ⟨B, rfl⟩ := Int.eq_ofNat_of_zero_le h.2.2.1
    exact .inl ⟨A, B, rfl, rfl, by omega, by omega⟩
  · exact .inr h
theorem distT_range {nd : Nat} {l : List Lnk} (hg : GOk nd l) (a b : Int) : -1 ≤ distT nd l a b ∧ distT nd l a b ≤ 654311424 := by
  rcases distT_cases nd a b with ⟨A, B, rfl, rfl, hA, hB⟩ | h
  · rw [distT_in hA hB]
    exact ⟨(dist_ok hg hA).low B hB, dist_top hg hA hB⟩
  · unfold distT; rw [if_neg h]; omega
theorem distT_sym {nd : Nat} {l : List Lnk} (hg : GOk nd l) (a b : Int) : distT nd l a b = distT nd l b a := by
  rcases distT_cases nd a b with ⟨A, B, rfl, rfl, hA, hB⟩ | h
  · rw [distT_in hA hB, distT_in hB hA]
    exact dist_sym hg hA hB
  · unfold distT; rw [if_neg h, if_neg (by omega)]
theorem distT_tri {nd : Nat} {l : List Lnk} (hg : GOk nd l) {a b c : Int} (h1 : 0 ≤ distT nd l a b) (h2 : 0 ≤ distT nd l b c) : 0 ≤ distT nd l a c ∧ distT nd l a c ≤ distT nd l a b + distT nd l b c := by
  rcases distT_cases nd a b with ⟨A, B, rfl, rfl, hA, hB⟩ | h
  · rcases distT_cases nd (B : Int) c with ⟨B', C, hBB, rfl, _, hC⟩ | h'
    · rw [distT_in hA hB] at h1 ⊢
      rw [distT_in hB hC] at h2 ⊢
      rw [distT_in hA hC]
      exact dist_tri hg (dist_ok hg hA) (dist_ok hg hB) h1 (dAt (distS nd l [] B) (C : Int)).toNat C hC h2 (by omega)
    · unfold distT at h2; rw [if_neg h'] at h2; omega
  · unfold distT at h1; rw [if_neg h] at h1; omega
theorem gok_check {nd : Nat} {l : List Lnk} (hg : GOk nd l) : (checkS (nd : Int) l).2 = 0 := by
  obtain ⟨h1, h2, h3, h4⟩ := hg
  unfold checkS
  rw [if_neg (by omega), if_neg (by omega)]
  exact h4
theorem isDn_nil (i : Nat) : isDn [] i = false := by unfold isDn; simp
theorem nextT_len (nd : Nat) (l : List Lnk) (a b : Int) : (nextT nd l a b).length ≤ 2 * l.length := by
  unfold nextT nextS
  split
  · split
    · exact Nat.le_trans (List.length_filter_le _ _) (outS_len l a _)
    · simp
  · simp
theorem nextT_sorted (nd : Nat) (l : List Lnk) (a b : Int) : (nextT nd l a b).Pairwise (· < ·) := by
  unfold nextT nextS
  split
  · split
    · exact List.Pairwise.filter _ (outS_sorted l a _)
    · exact List.Pairwise.nil
  · exact List.Pairwise.nil
/-- An edge that goes on. -/
theorem nextT_mem {nd : Nat} {l : List Lnk} (hg : GOk nd l) {a b e : Int} (h : e ∈ nextT nd l a b) : ∃ (k A y : Nat) (x : Lnk), e = (k : Int) ∧ a = (A : Int) ∧ k < 2 * l.length ∧ l[k / 2]? = some x ∧ endsS l e = (a, (y : Int), true) ∧ y < nd ∧ distT nd l (y : Int) b = distT nd l a b - x.m := by
  unfold nextT at h
  split at h
  · rename_i hb
    obtain ⟨B, rfl⟩ := Int.eq_ofNat_of_zero_le hb.1
    have hB : B < nd := by omega
    rw [Int.toNat_natCast] at h
    unfold nextS at h
    split at h
    · rename_i hc
      obtain ⟨A, rfl⟩ := Int.eq_ofNat_of_zero_le hc.2.2.1
      have hA : A < nd := by omega
      obtain ⟨h1, h2⟩ := List.mem_filter.1 h
      obtain ⟨k, hk, rfl, hf⟩ := mem_outS.1 h1
      obtain ⟨a', y, x, hx, he, hfa, hto, hm, ha', hy, _⟩ := edge_facts hg hk
      unfold onS at h2
      simp only [Int.toNat_natCast, isDn_nil, Bool.not_false, Bool.true_and, Bool.and_eq_true, decide_eq_true_eq, beq_iff_eq] at h2
      rw [hto, hm] at h2
      refine ⟨k, A, y, x, rfl, rfl, hk, hx, ?_, hy, ?_⟩
      · rw [he] at hf ⊢
        simp only at hf
        rw [hf]
      · rw [distT_in hy hB, distT_in hA hB, dist_sym hg hy hB, dist_sym hg hA hB]
        omega
    · cases h
  · cases h
/-- There is one wherever there is a way. -/
theorem nextT_some {nd : Nat} {l : List Lnk} (hg : GOk nd l) (a b : Int) : 0 < (nextT nd l a b).length ↔ 0 < distT nd l a b := by
  constructor
  · intro h
    obtain ⟨e, he⟩ := List.exists_mem_of_length_pos h
    unfold nextT at he
    split at he
    · rename_i hb
      obtain ⟨B, rfl⟩ := Int.eq_ofNat_of_zero_le hb.1
      unfold nextS at he
      split at he
      · rename_i hc
        obtain ⟨A, rfl⟩ := Int.eq_ofNat_of_zero_le hc.2.2.1
        rw [distT_in (by omega) (by omega), dist_sym hg (by omega) (by omega)]
        exact hc.2.2.2.2
      · cases he
    · cases he
  · intro h
    rcases distT_cases nd a b with ⟨A, B, rfl, rfl, hA, hB⟩ | h'
    · rw [distT_in hA hB, dist_sym hg hA hB] at h
      have hok := dist_ok (dn := []) hg hB
      have hne : A ≠ B := by rintro rfl; rw [hok.src] at h; omega
      obtain ⟨k, hk, _, ht, hf, he⟩ := hok.via A hA hne (by omega)
      obtain ⟨k', hk', _, hf', ht', hm'⟩ := edge_back hg hk
      refine List.length_pos_of_mem (a := (k' : Int)) ?_
      unfold nextT
      rw [if_pos ⟨by omega, by omega⟩, Int.toNat_natCast]
      unfold nextS
      rw [if_pos ⟨gok_check hg, by rw [hok.len], by omega, by omega, h⟩]
      · refine List.mem_filter.2 ⟨mem_outS.2 ⟨k', hk', rfl, ?_⟩, ?_⟩
        · show frm l k' = _
          rw [hf', ht]
        · unfold onS
          simp only [Int.toNat_natCast, isDn_nil, Bool.not_false, Bool.true_and, Bool.and_eq_true, decide_eq_true_eq, beq_iff_eq]
          rw [ht', hm']
          exact ⟨hf, by omega⟩
    · unfold distT at h; rw [if_neg h'] at h; omega
end Go.Proofs.Ytkemcgbedapkcaa

/- Cut out of TbB. -/
namespace Go.Proofs.Ytkemcgbedapkcaa
open Go.RowKit
set_option maxHeartbeats 12800000
set_option maxRecDepth 100000
/-- A graph of any length as a call gets it. -/
structure GAny (w : World) (nd : Int) (A : Option Addr) (n c : Nat) (l : List Lnk) : Prop where
  row : RLnk w w.heap.size A n l
  max : n ≤ maxLen
  cap : n ≤ c
  non : A = none → n = 0 ∧ c = 0
  lo : -9223372036854775808 ≤ nd
  hi : nd ≤ 9223372036854775807
theorem GAny.on {w w' : World} {nd : Int} {A : Option Addr} {n c : Nat} {l : List Lnk} (h : GAny w nd A n c l) (hb : Below w.heap.size w w') : GAny w' nd A n c l := ⟨h.row.on hb, h.max, h.cap, h.non, h.lo, h.hi⟩
/-- A row of numbers that reads as L. -/
def RowAns (L : List Int) (w : World) (e : Ending) (w' : World) : Prop := ∃ A c, e = .returned (.slice A L.length c) ∧ RInt w' w'.heap.size A L.length L ∧ Below w.heap.size w w'
def NewAns (TabAt : World → Addr → Nat → List Lnk → Prop) (nd : Int) (l : List Lnk) (w : World) (e : Ending) (w' : World) : Prop :=
  Below w.heap.size w w' ∧ (((checkS nd l).2 = 0 ∧ ∃ (p : Addr) (N : Nat), nd = (N : Int) ∧ e = .returned (.tuple #[.pointer (some p), .int .i64 0]) ∧ TabAt w' p N l) ∨ ((checkS nd l).2 ≠ 0 ∧ e = .returned (.tuple #[.pointer none, .int .i64 (checkS nd l).2])))
def In64 (a : Int) : Prop := -9223372036854775808 ≤ a ∧ a ≤ 9223372036854775807
structure TabOps (TabAt : World → Addr → Nat → List Lnk → Prop) (fNew fDist fNext : Nat) : Prop where
  keep : ∀ (w w' : World) (p : Addr) (N : Nat) (l : List Lnk), TabAt w p N l → Below w.heap.size w w' → TabAt w' p N l
  new : ∀ (nd : Int) (A : Option Addr) (n c : Nat) (l : List Lnk) (w : World), GAny w nd A n c l → Calls Try.prog fNew #[.agg #[.int .i64 nd, .slice A n c]] w (NewAns TabAt nd l w)
  dist : ∀ (w : World) (p : Addr) (N : Nat) (l : List Lnk) (a b : Int), TabAt w p N l → GOk N l → In64 a → In64 b → Calls Try.prog fDist #[.pointer (some p), .int .i64 a, .int .i64 b] w fun e w' => e = .returned (.int .i64 (distT N l a b)) ∧ Below w.heap.size w w'
  next : ∀ (w : World) (p : Addr) (N : Nat) (l : List Lnk) (a b : Int), TabAt w p N l → GOk N l → In64 a → In64 b → Calls Try.prog fNext #[.pointer (some p), .int .i64 a, .int .i64 b] w (RowAns (nextT N l a b) w)
def GraphOps (TabAt : World → Addr → Nat → List Lnk → Prop) (fGraph : Nat) : Prop := ∀ (w : World) (p : Addr) (N : Nat) (l : List Lnk), TabAt w p N l → GOk N l → Calls Try.prog fGraph #[.pointer (some p)] w fun e w' => ∃ A c, e = .returned (.agg #[.int .i64 (N : Int), .slice A l.length c]) ∧ RLnk w' w'.heap.size A l.length l ∧ Below w.heap.size w w'
/-- What the laws ask of the package. -/
def TabSpec (fNew fGraph fDist fNext : Nat) : Prop := ∃ TabAt : World → Addr → Nat → List Lnk → Prop, TabOps TabAt fNew fDist fNext ∧ GraphOps TabAt fGraph
def two : List Lnk := [⟨0, 1, 7, 0⟩]
theorem two_ok : GOk 2 two := ⟨by decide, by decide, by decide, by decide⟩
theorem two_zero : distS 2 two [] 0 = [0, 7] := by
  have := from_two
  unfold fromS at this
  rw [if_pos (by decide)] at this
  exact this
theorem two_one : distS 2 two [] 1 = [7, 0] := by
  refine distS_eq two_ok ⟨rfl, by decide, fun v hv => ?_, fun k hk => ?_, fun v hv h0 _ => ?_⟩
  · rcases (show v = 0 ∨ v = 1 by omega) with rfl | rfl <;> decide
  · simp [two] at hk
    rcases (show k = 0 ∨ k = 1 by omega) with rfl | rfl <;> decide
  · obtain rfl : v = 0 := by omega
    exact ⟨1, by decide, by decide, by decide, by decide, by decide⟩
theorem two_dist0 : distT 2 two 0 0 = 0 := by
  unfold distT
  rw [if_pos (by decide), show (0 : Int).toNat = 0 from rfl, two_zero]; decide
theorem two_dist1 : distT 2 two 0 1 = 7 := by
  unfold distT
  rw [if_pos (by decide), show (0 : Int).toNat = 0 from rfl, two_zero]; decide
theorem two_next : nextT 2 two 0 1 = [0] := by
  unfold nextT
  rw [if_pos (by decide), show (1 : Int).toNat = 1 from rfl, two_one]; decide
theorem new_two {TabAt : World → Addr → Nat → List Lnk → Prop} {w w' : World} {e : Ending} (h : NewAns TabAt 2 two w e w') : Below w.heap.size w w' ∧ ∃ p : Addr, e = .returned (.tuple #[.pointer (some p), .int .i64 0]) ∧ TabAt w' p 2 two := by
  refine ⟨h.1, ?_⟩
  rcases h.2 with ⟨_, p, N, hN, he, ht⟩ | ⟨hne, _⟩
  · obtain rfl : N = 2 := by omega
    exact ⟨p, he, ht⟩
  · exact absurd (gok_check two_ok) hne
end Go.Proofs.Ytkemcgbedapkcaa

/- Cut out of TbE. -/
namespace Go.Proofs.Ytkemcgbedapkcaa
open Go.RowKit
set_option maxHeartbeats 12800000
set_option maxRecDepth 100000
/-- What a law holds while it calls: the graph's box, and the tables. -/
structure HeldT (TabAt : World → Addr → Nat → List Lnk → Prop) (w : World) (nd : Int) (A : Option Addr) (n c : Nat) (p : Addr) (N : Nat) (l : List Lnk) (w' : World) : Prop where
  held : Held w nd A n c w'
  tab : TabAt w' p N l
theorem HeldT.next {TabAt : World → Addr → Nat → List Lnk → Prop} (hk : ∀ (w w' : World) (p : Addr) (N : Nat) (l : List Lnk), TabAt w p N l → Below w.heap.size w w' → TabAt w' p N l) {w w' w'' : World} {nd : Int} {A : Option Addr} {n c : Nat} {p : Addr} {N : Nat} {l : List Lnk} (h : HeldT TabAt w nd A n c p N l w') (hb : Below w'.heap.size w' w'') : HeldT TabAt w nd A n c p N l w'' :=
  ⟨h.held.next hb, hk _ _ _ _ _ h.tab hb⟩
theorem new_held {TabAt : World → Addr → Nat → List Lnk → Prop} {fNew fDist fNext : Nat} (ho : TabOps TabAt fNew fDist fNext) {nd : Int} {A : Option Addr} {n c : Nat} {l : List Lnk} {w w' : World} (hg : GAny w nd A n c l) (h : Held w nd A n c w') :
    ((checkS nd l).2 = 0 → ∃ N : Nat, nd = (N : Int) ∧ GOk N l ∧ Calls Try.prog fNew #[.agg #[.int .i64 nd, .slice A n c]] w' fun e w'' => ∃ p, e = .returned (.tuple #[.pointer (some p), .int .i64 0]) ∧ HeldT TabAt w nd A n c p N l w'') ∧
    ((checkS nd l).2 ≠ 0 → Calls Try.prog fNew #[.agg #[.int .i64 nd, .slice A n c]] w' fun e w'' => e = .returned (.tuple #[.pointer none, .int .i64 (checkS nd l).2]) ∧ Held w nd A n c w'') := by
  have hn := ho.new nd A n c l w' (hg.on h.1)
  refine ⟨fun h0 => ?_, fun h0 => ?_⟩
  · obtain ⟨_, h2, _, _⟩ := checkS_ok h0
    obtain ⟨N, rfl⟩ := Int.eq_ofNat_of_zero_le (show 0 ≤ nd by omega)
    refine ⟨N, rfl, gok_of h0, hn.mono ?_⟩
    rintro e' w'' ⟨hb, h1⟩
    rcases h1 with ⟨_, p, M, hM, rfl, ht⟩ | ⟨h1, _⟩
    · obtain rfl : M = N := by omega
      exact ⟨p, rfl, h.next hb, ht⟩
    · exact absurd h0 h1
  · refine hn.mono ?_
    rintro e' w'' ⟨hb, h1⟩
    rcases h1 with ⟨h1, _⟩ | ⟨_, rfl⟩
    · exact absurd h1 h0
    · exact ⟨rfl, h.next hb⟩
end Go.Proofs.Ytkemcgbedapkcaa

/- waymarkref1.CopyGraph. -/
namespace Go.Proofs.Ytkemcgbedapkcaa
open Go.RowKit
set_option maxHeartbeats 6400000
set_option maxRecDepth 100000
theorem lcells_len (l : List Lnk) : (lcells l).length = l.length * 4 := by
  induction l with
  | nil => rfl
  | cons x r ih => simp only [lcells, List.flatMap_cons, List.length_append, List.length_cons, List.length_nil] at *; omega
theorem lcells_get {l : List Lnk} {j : Nat} {u : Value} (h : (lcells l)[j]? = some u) : ∃ i e, l[i]? = some e ∧ ((j = i * 4 ∧ u = .int .i64 e.a) ∨ (j = i * 4 + 1 ∧ u = .int .i64 e.b) ∨ (j = i * 4 + 2 ∧ u = .int .i64 e.m) ∨ (j = i * 4 + 3 ∧ u = .int .i64 e.c)) := by
  have hj : j < (lcells l).length := (List.getElem?_eq_some_iff.1 h).1
  rw [lcells_len] at hj
  have he : l[j / 4]? = some (l[j / 4]'(by omega)) := List.getElem?_eq_getElem (by omega)
  obtain ⟨h0, h1, h2, h3⟩ := lcells_at he
  refine ⟨j / 4, _, he, ?_⟩
  rcases (show j % 4 = 0 ∨ j % 4 = 1 ∨ j % 4 = 2 ∨ j % 4 = 3 by omega) with hm | hm | hm | hm
  · rw [show j / 4 * 4 = j by omega, h] at h0
    exact .inl ⟨by omega, by simpa using h0⟩
  · rw [show j / 4 * 4 + 1 = j by omega, h] at h1
    exact .inr (.inl ⟨by omega, by simpa using h1⟩)
  · rw [show j / 4 * 4 + 2 = j by omega, h] at h2
    exact .inr (.inr (.inl ⟨by omega, by simpa using h2⟩))
  · rw [show j / 4 * 4 + 3 = j by omega, h] at h3
    exact .inr (.inr (.inr ⟨by omega, by simpa using h3⟩))
theorem lnks_src {w : World} {B n : Nat} {A : Option Addr} {l : List Lnk} (h : RLnk w B A n l) : ∀ ad, A = some ad → ∀ (j : Nat) (u : Value), (lcells l)[j]? = some u → w.cell? (ad.add j) = some u := by
  intro ad hA j u hu
  obtain ⟨i, e, he, hj⟩ := lcells_get hu
  have hi : i < l.length := (List.getElem?_eq_some_iff.1 he).1
  obtain ⟨b, off, hb, _, hc⟩ := h.2 (by rw [← h.1]; omega)
  rw [hA] at hb
  injection hb with hb
  subst hb
  obtain ⟨h0, h1, h2, h3⟩ := hc i e he
  rw [Go.WideShapes.add_plain]
  rcases hj with ⟨rfl, rfl⟩ | ⟨rfl, rfl⟩ | ⟨rfl, rfl⟩ | ⟨rfl, rfl⟩
  · exact h0
  · exact h1
  · exact h2
  · exact h3
theorem box2_new {w w3 : World} {o1 : Obj} {cs : Array Value} {t : TypeId} (hb : Below ((w.alloc o1).alloc (.cells cs t)).heap.size ((w.alloc o1).alloc (.cells cs t)) w3) : w3.heap[w.heap.size + 1]? = some (.cells cs t (0, 0)) := by
  have h := box_below (heap_alloc_new (w.alloc o1) (.cells cs t)) hb (by simp)
  have e : (w.alloc o1).heap.size = w.heap.size + 1 := by simp
  rw [e] at h
  exact h
theorem box2_kept {w3 : World} {B : Nat} {o : Obj} {u : Value} (h : w3.heap[B + 1]? = some o) : (w3.setCell ⟨B, 1, none⟩ u).heap[B + 1]? = some o := (heap_setCell_other _ _ _ _ (by show _ ≠ B; omega)).trans h
theorem copy_any (nd : Int) (A : Option Addr) (n c : Nat) (l : List Lnk) (w : World) (hr : RLnk w w.heap.size A n l) (hn : n ≤ 1000) (hA : A = none → n = 0 ∧ c = 0) :
    Calls Try.prog 29 #[.agg #[.int .i64 nd, .slice A n c]] w fun e w' => ∃ A' c', e = .returned (.agg #[.int .i64 nd, .slice A' n c']) ∧ w'.ownsRow w.heap.size 49 4 (.slice A' n c') n (lcells l) ∧ Below w.heap.size w w' := by
  obtain ⟨i5, hi, hz0, hz1, hz2⟩ := info_parts (show (Try.prog.info? 49).map (fun i => (i.zero, i.size, i.bytes)) = some (some (.agg #[.int .i64 0, .int .i64 0, .int .i64 0, .int .i64 0]), 4, 32) by kernel_rfl)
  have Ai := hid hi; have Az0 := hid hz0; have Az1 := hid hz1; have Az2 := hid hz2
  clear hi hz0 hz1 hz2
  have hS := Held.start w nd A n c
  have hl := hr.1
  have HR := hid hr
  have HA := hid hA
  have b2 : Below w.heap.size w ((w.alloc (.cells #[.int .i64 nd, .slice A n c] 24)).alloc (.cells #[.int .i64 0, .slice none 0 0] 24)) := (hS.1).alloc (by simp) _
  have h2 := hS.next ((Below.refl _ _).alloc (Nat.le_refl _) (.cells #[.int .i64 0, .slice none 0 0] 24))
  obtain ⟨g0, g1⟩ := h2.cells
  clear hr hA
  go_enter Try.func29, Try.ntmps29
  go_wp2_with (at_builtin; refine wpList_copy rfl (.const (.slice none 0 0)) (.tmp 4) 22 rfl (w.heap.size + 2) 49 i5 (.agg #[.int .i64 0, .int .i64 0, .int .i64 0, .int .i64 0]) 4 32 Try.underlying22 Ai.out Az0.out Az1.out Az2.out rfl (by decide) rfl A n c (lcells l) rfl HA.out (by rw [lcells_len, hl]) (lnks_src (HR.out.below b2)) (lcells_one _) (by unfold maxLen; omega) (by omega) (by simp) ?_; intro v3 w3 hown3 hb3; obtain ⟨A3, c3, rfl, hle, hr3⟩ := own_lnks hown3 hl; obtain ⟨q0, q1, q2⟩ := box_cells (h2.next hb3).2; have f1 := q2 1; have hX := box2_new hb3; have hX1 := box2_kept (u := .slice A3 n c3) hX; obtain ⟨r0, r1, r2⟩ := box_cells hX1; have e0 := r2 0; obtain ⟨p0, p1, p2⟩ := box_cells (box_set0 (u := .int .i64 nd) hX1); have e1 := p2 1; have HO3 := hid hown3; have HX1 := hid hX1; have B3 := hid (b2.trans (hb3.mono b2.size)); clear hown3 hr3 q2 r2 p2 hX hX1)
  have hg := box_set1 (u := .slice A3 n c3) (box_set0 (u := .int .i64 nd) HX1.out)
  try simp only [Exit.inBlock, Exit.then]
  refine bodyPost_ret (results_cell_row (p := 2) (fn := Try.f29) rfl _ _ _ _ _ _ _ rfl hg Try.underlying24 rfl (by kernel_rfl)) rfl ?_
  exact ⟨A3, c3, rfl, own_mono (own_set (own_set (own_set HO3.out (by show w.heap.size < w.heap.size + 2; omega) _) (by show w.heap.size + 1 < w.heap.size + 2; omega) _) (by show w.heap.size + 1 < w.heap.size + 2; omega) _) (by omega), ((B3.out.setCell (Nat.le_refl _) _).setCell (by show _ ≤ _ + 1; omega) _).setCell (by show _ ≤ _ + 1; omega) _⟩
end Go.Proofs.Ytkemcgbedapkcaa
