/- What From holds while it runs: the row of lengths, the heap, the graph's box. -/
import Derived.Test.YtabgbhkpeeibaaaSpM
import Derived.Test.YtabgbhkpeeibaaaHqA
import Derived.Test.YtabgbhkpeeibaaaDqA
namespace Go.Proofs.Ytabgbhkpeeibaaa
open Go.RowKit
set_option maxHeartbeats 3200000
set_option maxRecDepth 100000
theorem heap_new (w : World) : HeapAt (w.alloc (.cells #[.pointer none] 88)) w.heap.size .nil := ⟨heap_alloc_new w _, trivial, trivial⟩
theorem gb_below {w w' : World} {B hb : Nat} (h : w.grownBy w' (some hb)) (hB : B ≤ hb) (hs : B ≤ w.heap.size) : Below B w w' := Below.grown (Below.refl _ _) h hs (fun k hk => by simp at hk; omega)
theorem HeapAt.below {w w' : World} {hb : Nat} {T : HT} (h : HeapAt w hb T) (hw : Below w.heap.size w w') : HeapAt w' hb T := ⟨(hw.block hb (heap_lt h.1)).trans h.1, h.2.1.below hw, h.2.2⟩
theorem own_none {w : World} {base e size n k : Nat} {v : Value} {xs : List Value} {t : TypeId} {c : Array Value} {fz : Nat × Nat} (hown : w.ownsRow base e size v n xs) (ho : w.heap[k]? = some (.cells c t fz)) (he : e ≠ t) : v.ownBlock ≠ some k := by
  rcases hown.2 with ⟨rfl, _⟩ | ⟨g, cap, cur, rfl, _, hg, _⟩
  · simp [Value.ownBlock]
  · simp only [Value.ownBlock, ne_eq, Option.some.injEq]
    rintro rfl
    rw [ho] at hg
    simp at hg
    exact he hg.2.1.symm
theorem HeapAt.set {w : World} {hb G i : Nat} {T : HT} {d : List Int} {u : Value} (h : HeapAt w hb T) (hr : IRow w G d) : HeapAt (w.setCell ⟨G, i, none⟩ u) hb T := by
  have hr' : w.heap[G]? = some (.cells (icells d).toArray 3 (0, 0)) := hr
  have key : ∀ (b : Nat) (c : Array Value) (t : TypeId), t ≠ 3 → w.heap[b]? = some (.cells c t (0, 0)) → (w.setCell ⟨G, i, none⟩ u).heap[b]? = some (.cells c t (0, 0)) := by
    intro b c t ht hc
    rw [Below.heap_setCell _ _ _ _ ?_]
    · exact hc
    · rintro rfl
      rw [hr'] at hc
      simp at hc
      exact ht hc.2.symm
  exact ⟨key _ _ _ (by decide) h.1, h.2.1.keep fun b c hc => key b c _ (by decide) hc, h.2.2⟩
theorem IRow.gb {w w' : World} {G hb : Nat} {d : List Int} {T : HT} (h : IRow w G d) (hh : HeapAt w hb T) (hg : w.grownBy w' (some hb)) : IRow w' G d := by
  have h' : w.heap[G]? = some (.cells (icells d).toArray 3 (0, 0)) := h
  refine (hg.block G h.lt (fun e => ?_)).trans h'
  simp only [Option.some.injEq] at e
  subst e
  have := hh.1
  rw [h'] at this
  simp at this
theorem Held.gb {w w1 w2 : World} {nd : Int} {A : Option Addr} {n c hb : Nat} (h : Held w nd A n c w1) (hlt : w.heap.size < hb) (hg : w1.grownBy w2 (some hb)) : Held w nd A n c w2 :=
  ⟨h.1.trans (gb_below hg (by omega) h.1.size), (hg.block _ h.lt (fun e => by simp only [Option.some.injEq] at e; omega)).trans h.2⟩
/-- The state. -/
structure DSt (w : World) (nd : Int) (A : Option Addr) (n c G hb : Nat) (d : List Int) (T : HT) (w' : World) : Prop where
  row : IRow w' G d
  heap : HeapAt w' hb T
  held : Held w nd A n c w'
  g : w.heap.size < G
  h : w.heap.size < hb
theorem DSt.next {w w' w'' : World} {nd : Int} {A : Option Addr} {n c G hb : Nat} {d : List Int} {T : HT} (h : DSt w nd A n c G hb d T w') (hb' : Below w'.heap.size w' w'') : DSt w nd A n c G hb d T w'' :=
  ⟨h.row.on hb', h.heap.below hb', h.held.next hb', h.g, h.h⟩
theorem DSt.drew {w w' : World} {nd : Int} {A : Option Addr} {n c G hb : Nat} {d : List Int} {T : HT} (h : DSt w nd A n c G hb d T w') : DSt w nd A n c G hb d T w'.drew := h.next ((Below.refl _ _).drew)
theorem DSt.drewN {w w' : World} {nd : Int} {A : Option Addr} {n c G hb : Nat} {d : List Int} {T : HT} (h : DSt w nd A n c G hb d T w') (k : Nat) : DSt w nd A n c G hb d T (w'.drewN k) := h.next (below_drewN (Below.refl _ _))
theorem DSt.set {w w' : World} {nd : Int} {A : Option Addr} {n c G hb i : Nat} {d : List Int} {T : HT} (h : DSt w nd A n c G hb d T w') (x : Int) : DSt w nd A n c G hb (d.set i x) T (w'.setCell ⟨G, i, none⟩ (.int .i64 x)) :=
  ⟨h.row.set x, h.heap.set h.row, h.held.set h.g, h.g, h.h⟩
theorem DSt.len {w w' : World} {nd : Int} {A : Option Addr} {n c G hb p : Nat} {d : List Int} {T : HT} (h : DSt w nd A n c G hb d T w') (hp : T.cnt = p) : Calls Try.prog 63 #[.pointer (some ⟨hb, 0, none⟩)] w' fun e w'' => e = .returned (.int .i64 (p : Int)) ∧ w' = w'' := by
  rw [← hp]
  exact len_any hb T w' h.heap
theorem DSt.push {w w' : World} {nd : Int} {A : Option Addr} {n c G hb : Nat} {d : List Int} {T : HT} (h : DSt w nd A n c G hb d T w') (hc : T.cnt ≤ 900000) (x v : Int) : Calls Try.prog 62 #[.pointer (some ⟨hb, 0, none⟩), .int .i64 x, .int .i64 v] w' fun e w'' =>
    e = .returned (.tuple #[]) ∧ ∃ T', DSt w nd A n c G hb d T' w'' ∧ T'.all.Perm ((x, v) :: T.all) ∧ w'.grownBy w'' (some hb) := by
  refine (push_any hb x v T w' h.heap hc).mono ?_
  rintro e' w'' ⟨rfl, T', hT, hp, hg⟩
  exact ⟨rfl, T', ⟨h.row.gb h.heap hg, hT, h.held.gb h.h hg, h.g, h.h⟩, hp, hg⟩
theorem DSt.pop {w w' : World} {nd : Int} {A : Option Addr} {n c G hb b : Nat} {d : List Int} {k v : Int} {m f : HT} (h : DSt w nd A n c G hb d (.node b k v m f) w') (hc : (HT.node b k v m f).cnt ≤ 900000) : Calls Try.prog 64 #[.pointer (some ⟨hb, 0, none⟩)] w' fun e w'' =>
    e = .returned (.tuple #[.int .i64 k, .int .i64 v, .bool true]) ∧ ∃ T', DSt w nd A n c G hb d T' w'' ∧ T'.all.Perm (m.all ++ f.all) := by
  refine (pop_some hb b k v m f w' h.heap hc).mono ?_
  rintro e' w'' ⟨rfl, T', hT, hp, hg⟩
  exact ⟨rfl, T', ⟨h.row.gb h.heap hg, hT, h.held.gb h.h hg, h.g, h.h⟩, hp⟩
/-- How much waits in the heap of block hb. -/
def hpN (w : World) (hb : Nat) : Nat := match w.heap[hb]? with
  | some (.cells cs _ _) => match cs.getD 0 undef with
    | Value.pointer (some a) => match w.heap[a.block]? with
      | some (.cells ds _ _) => (intOf (ds.getD 2 undef)).toNat
      | _ => 0
    | _ => 0
  | _ => 0
theorem HeapAt.hpN {w : World} {hb : Nat} {T : HT} (h : HeapAt w hb T) : hpN w hb = T.cnt := by
  unfold Go.Proofs.Ytabgbhkpeeibaaa.hpN
  rw [h.1]
  cases T with
  | nil => rfl
  | node b k v m f =>
    have := h.2.1.1
    show (match w.heap[b]? with
      | some (.cells ds _ _) => (intOf (ds.getD 2 undef)).toNat
      | _ => 0) = _
    rw [this]
    show (1 + (m.cnt : Int) + (f.cnt : Int)).toNat = m.cnt + f.cnt + 1
    omega
/-- What is still to be done. -/
def potD (nd : Nat) (w : World) (G hb : Nat) : Nat := (nd - (match w.heap[G]? with
  | some (.cells cs _ _) => lab (cs.toList.map intOf)
  | _ => 0)) * 1000 + hpN w hb
theorem DSt.pot {w w' : World} {nd : Int} {N : Nat} {A : Option Addr} {n c G hb : Nat} {d : List Int} {T : HT} (h : DSt w nd A n c G hb d T w') : potD N w' G hb = (N - lab d) * 1000 + T.cnt := by
  have h' : w'.heap[G]? = some (.cells (icells d).toArray 3 (0, 0)) := h.row
  unfold potD
  rw [h.heap.hpN, h']
  simp only [icells, List.map_map]
  congr 4
  exact (List.map_congr_left (fun x _ => rfl)).trans (List.map_id _)
end Go.Proofs.Ytabgbhkpeeibaaa
