/- What a heap keeps while others are written; the least of a row of pairs. -/
import Derived.Test.YtmnlbefmgolciaaHpE
import Derived.Test.YtmnlbefmgolciaaHpO
import Derived.Test.YtmnlbefmgolciaaWdP
namespace Go.Proofs.Ytmnlbefmgolciaa
open Go.RowKit
set_option maxHeartbeats 1600000
set_option maxRecDepth 100000
theorem HeapAt.below {w w' : World} {hb : Nat} {T : HT} (h : HeapAt w hb T) (hw : Below w.heap.size w w') : HeapAt w' hb T := ⟨(hw.block hb (heap_lt h.1)).trans h.1, h.2.1.below hw, h.2.2⟩
theorem HeapAt.other {w w' : World} {hb ob : Nat} {T To : HT} (h : HeapAt w hb T) (ho : HeapAt w ob To) (hne : hb ≠ ob) (hg : w.grownBy w' (some ob)) : HeapAt w' hb T := by
  refine ⟨(hg.block hb (heap_lt h.1) (fun e => hne (by simpa using e))).trans h.1, h.2.1.keep fun b c hc => (hg.block b (heap_lt hc) (fun e => ?_)).trans hc, h.2.2⟩
  simp only [Option.some.injEq] at e
  subst e
  have := ho.1.symm.trans hc
  simp at this
theorem undrew_gb {w w' : World} {r : Option Nat} (h : w.drew.grownBy w' r) : w.grownBy w' r := ⟨h.os, h.tape, h.output, h.size, h.block⟩
theorem HeapAt.drew {w : World} {hb : Nat} {T : HT} (h : HeapAt w hb T) : HeapAt w.drew hb T := h.below ((Below.refl _ _).drew)
theorem len_is {hb : Nat} {T : HT} {w : World} {l : List (Int × Int)} {m : Nat} (h : HeapAt w hb T) (hp : T.all.Perm l) (hl : l.length = m) : Calls Try.prog 8 #[.pointer (some ⟨hb, 0, none⟩)] w fun e w' => e = .returned (.int .i64 (m : Int)) ∧ w = w' := by
  have h1 := len_any hb T w h
  rw [perm_cnt hp, hl] at h1
  exact h1
theorem own_none {w : World} {base e size n k : Nat} {v : Value} {xs : List Value} {t : TypeId} {c : Array Value} {fz : Nat × Nat} (hown : w.ownsRow base e size v n xs) (ho : w.heap[k]? = some (.cells c t fz)) (he : e ≠ t) : v.ownBlock ≠ some k := by
  rcases hown.2 with ⟨rfl, _⟩ | ⟨g, cap, cur, rfl, _, hg, _⟩
  · simp [Value.ownBlock]
  · simp only [Value.ownBlock, ne_eq, Option.some.injEq]
    rintro rfl
    rw [ho] at hg
    simp at hg
    exact he hg.2.1.symm
theorem HeapAt.own {w w' : World} {hb : Nat} {T : HT} {base size n : Nat} {v : Value} {xs : List Value} (h : HeapAt w hb T) (hown : w.ownsRow base 32 size v n xs) (hg : w.grownBy w' v.ownBlock) : HeapAt w' hb T :=
  ⟨(hg.block hb (heap_lt h.1) (fun e => own_none hown h.1 (by decide) e.symm)).trans h.1, h.2.1.keep fun b _ hc => (hg.block b (heap_lt hc) (fun e => own_none hown hc (by decide) e.symm)).trans hc, h.2.2⟩
theorem own_other {w w' : World} {base n ob : Nat} {v : Value} {xs : List Value} {To : HT} (hown : w.ownsRow base 32 2 v n xs) (ho : HeapAt w ob To) (hg : w.grownBy w' (some ob)) : w'.ownsRow base 32 2 v n xs :=
  hown.kept hg (.inr (own_none hown ho.1 (by decide)))
theorem below_app4 {w2 w4 : World} {B e s n : Nat} {v : Value} {xs : List Value} {o : Obj} (hown : w2.ownsRow B e s v n xs) (hs : B ≤ w2.heap.size) (hg : (w2.drew.alloc o).grownBy w4 v.ownBlock) : Below B w2 w4 := by
  have h := Below.grown ((Below.refl B w2.drew).alloc hs o) hg (by simp; omega) (fun k hk => (hown.lt k hk).1)
  exact ⟨h.os, h.tape, h.output, h.size, h.block⟩
theorem HeapAt.app {w w' : World} {hb : Nat} {T : HT} {base size n : Nat} {v : Value} {xs : List Value} {o : Obj} (h : HeapAt w hb T) (hown : w.ownsRow base 32 size v n xs) (hg : (w.drew.alloc o).grownBy w' v.ownBlock) : HeapAt w' hb T :=
  (h.drew.below ((Below.refl _ _).alloc (Nat.le_refl _) o)).own (World.ownsRow.alloc (w := w.drew) hown o) hg
theorem RPr.on {a b : World} {A : Option Addr} {n : Nat} {l : List (Int × Int)} (h : RPr a a.heap.size A n l) (hb : Below a.heap.size a b) : RPr b b.heap.size A n l := (h.below hb).more hb.size
theorem own_prs {w : World} {base m : Nat} {v : Value} {l : List (Int × Int)} (h : w.ownsRow base 32 2 v m (pcells l)) (hl : l.length = m) : ∃ A cap, v = .slice A m cap ∧ m ≤ cap := by
  obtain ⟨A, cap, hv, _⟩ := own_pairs (l := l) (by rw [hl]; exact h)
  rw [hl] at hv
  refine ⟨A, cap, hv, ?_⟩
  rcases h.2 with ⟨h1, h2⟩ | ⟨g, cap', cur, h1, _, _, h2, _⟩
  · omega
  · rw [hv] at h1
    simp only [Value.slice.injEq] at h1
    omega
theorem own_rpr {w : World} {base m cap : Nat} {A : Option Addr} {l : List (Int × Int)} (h : w.ownsRow base 32 2 (.slice A m cap) m (pcells l)) (hl : l.length = m) : RPr w w.heap.size A m l := by
  obtain ⟨A', cap', hv, hr⟩ := own_pairs (l := l) (by rw [hl]; exact h)
  simp only [Value.slice.injEq] at hv
  obtain ⟨rfl, _, _⟩ := hv
  rwa [hl] at hr
theorem pcells_get {l : List (Int × Int)} {j : Nat} {u : Value} (h : (pcells l)[j]? = some u) : ∃ i e, l[i]? = some e ∧ ((j = i * 2 ∧ u = .int .i64 e.1) ∨ (j = i * 2 + 1 ∧ u = .int .i64 e.2)) := by
  have hj : j < (pcells l).length := (List.getElem?_eq_some_iff.1 h).1
  rw [pcells_len] at hj
  have he : l[j / 2]? = some (l[j / 2]'(by omega)) := List.getElem?_eq_getElem (by omega)
  obtain ⟨h0, h1⟩ := pcells_at he
  refine ⟨j / 2, _, he, ?_⟩
  rcases Nat.mod_two_eq_zero_or_one j with hm | hm
  · rw [show j / 2 * 2 = j by omega, h] at h0
    exact .inl ⟨by omega, by simpa using h0⟩
  · rw [show j / 2 * 2 + 1 = j by omega, h] at h1
    exact .inr ⟨by omega, by simpa using h1⟩
theorem prs_take {w : World} {B m p g go : Nat} {l : List (Int × Int)} (h : RPr w B (some ⟨g, go, none⟩) m l) (hm : 0 < m) : ∀ (j : Nat) (u : Value), (pcells (l.take p))[j]? = some u → w.cell? ((⟨g, go, none⟩ : Addr).add j) = some u := by
  intro j u hu
  obtain ⟨i, e, he, hj⟩ := pcells_get hu
  obtain ⟨b, off, h1, _, hc⟩ := h.2 hm
  simp only [Option.some.injEq, Addr.mk.injEq, and_true] at h1
  obtain ⟨rfl, rfl⟩ := h1
  rw [Go.WideShapes.add_plain]
  rw [List.getElem?_take] at he
  split at he
  · obtain ⟨h2, h3⟩ := hc i e he
    rcases hj with ⟨rfl, rfl⟩ | ⟨rfl, rfl⟩
    · exact h2
    · rw [← Nat.add_assoc]; exact h3
  · cases he
theorem prs_drop {w : World} {B m k q g go z cw : Nat} {l : List (Int × Int)} (h : RPr w B (some ⟨g, go, none⟩) m l) (hm : m = k + q) (hp : 0 < m) (hc : m ≤ cw) (hz : cw = k ∨ z = go + k * 2) : ∀ (j : Nat) (u : Value), (pcells (l.drop k))[j]? = some u → w.cell? ((⟨g, z, none⟩ : Addr).add j) = some u := by
  intro j u hu
  obtain ⟨i, e, he, hj⟩ := pcells_get hu
  obtain ⟨b, off, h1, _, hc'⟩ := h.2 hp
  simp only [Option.some.injEq, Addr.mk.injEq, and_true] at h1
  obtain ⟨rfl, rfl⟩ := h1
  rw [Go.WideShapes.add_plain]
  rw [List.getElem?_drop] at he
  have hl := (List.getElem?_eq_some_iff.1 he).1
  rw [h.1] at hl
  obtain rfl : z = go + k * 2 := by rcases hz with hz | hz <;> omega
  obtain ⟨h2, h3⟩ := hc' (k + i) e he
  rcases hj with ⟨rfl, rfl⟩ | ⟨rfl, rfl⟩
  · rw [show go + k * 2 + i * 2 = go + (k + i) * 2 by omega]; exact h2
  · rw [show go + k * 2 + (i * 2 + 1) = go + (k + i) * 2 + 1 by omega]; exact h3
/-- Behind the first so many pairs: the least of them. -/
def LeastAt (l : List (Int × Int)) (p j : Nat) : Prop := p < j ∧ ∀ (q : Nat) (e x : Int × Int), q < j → l[q]? = some e → l[p]? = some x → le2 x e
theorem least_one (l : List (Int × Int)) : LeastAt l 0 1 := by
  refine ⟨by omega, fun q e x hq he hx => ?_⟩
  obtain rfl : q = 0 := by omega
  rw [he] at hx
  injection hx with hx
  subst hx
  exact le2_refl _
theorem least_new {l : List (Int × Int)} {p j : Nat} {x y : Int × Int} (h : LeastAt l p j) (hx : l[p]? = some x) (hy : l[j]? = some y) (hlt : le2 y x) : LeastAt l j (j + 1) := by
  refine ⟨by omega, fun q e z hq he hz => ?_⟩
  rw [hy] at hz
  injection hz with hz
  subst hz
  rcases Nat.lt_or_ge q j with h1 | h1
  · exact le2_trans hlt (h.2 q e x h1 he hx)
  · obtain rfl : q = j := by omega
    rw [he] at hy
    injection hy with hy
    subst hy
    exact le2_refl _
theorem least_old {l : List (Int × Int)} {p j : Nat} {x y : Int × Int} (h : LeastAt l p j) (hx : l[p]? = some x) (hy : l[j]? = some y) (hlt : le2 x y) : LeastAt l p (j + 1) := by
  refine ⟨by have := h.1; omega, fun q e z hq he hz => ?_⟩
  rcases Nat.lt_or_ge q j with h1 | h1
  · exact h.2 q e z h1 he hz
  · obtain rfl : q = j := by omega
    rw [he] at hy
    injection hy with hy
    subst hy
    rw [hx] at hz
    injection hz with hz
    subst hz
    exact hlt
theorem least_top {b : Nat} {k v : Int} {m f : HT} {l : List (Int × Int)} {p j : Nat} {x : Int × Int} (ho : (HT.node b k v m f).Ord) (hp : (HT.node b k v m f).all.Perm l) (h : LeastAt l p j) (hj : j = l.length) (hx : l[p]? = some x) :
    x = (k, v) ∧ (m.all ++ f.all).Perm (l.take p ++ l.drop (p + 1)) := by
  have hmem : (k, v) ∈ l := hp.mem_iff.1 (by simp [HT.all])
  obtain ⟨q, hq, he⟩ := List.getElem_of_mem hmem
  have h1 := h.2 q (k, v) x (by omega) (by rw [List.getElem?_eq_getElem hq, he]) hx
  have h2 := root_le ho (hp.mem_iff.2 (List.mem_of_getElem? hx))
  have hxe := le2_anti h1 h2
  refine ⟨hxe, ?_⟩
  subst hxe
  have hp1 : l.Perm ((k, v) :: (l.take p ++ l.drop (p + 1))) := by
    obtain ⟨hpl, hge⟩ := List.getElem?_eq_some_iff.1 hx
    have : l = l.take p ++ ((k, v) :: l.drop (p + 1)) := by
      rw [← hge, ← List.drop_eq_getElem_cons hpl, List.take_append_drop]
    conv => lhs; rw [this]
    exact List.perm_middle
  exact (hp.trans hp1).cons_inv
end Go.Proofs.Ytmnlbefmgolciaa
