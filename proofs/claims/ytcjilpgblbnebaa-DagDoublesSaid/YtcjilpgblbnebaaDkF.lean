/- What dag.steps holds while it runs: lengths, the nodes that are gone, the heap, the row of steps. -/
import Derived.Test.YtcjilpgblbnebaaDkC
import Derived.Test.YtcjilpgblbnebaaDjF
namespace Go.Proofs.Ytcjilpgblbnebaa
open Go.RowKit
set_option maxHeartbeats 3200000
set_option maxRecDepth 100000
def scells (L : List Stp) : List Value := L.flatMap fun s => [.int .i64 s.e, .int .i64 s.a, .int .i64 s.b]
theorem scells_app (a b : List Stp) : scells (a ++ b) = scells a ++ scells b := List.flatMap_append
theorem scells_one (L : List Stp) : ∀ u ∈ scells L, u.oneCell' = true := by
  intro u hu
  simp only [scells, List.mem_flatMap, List.mem_cons, List.not_mem_nil, or_false] at hu
  obtain ⟨s, _, h⟩ := hu
  rcases h with rfl | rfl | rfl <;> rfl
theorem scells_at {L : List Stp} : ∀ {i : Nat} {s : Stp}, L[i]? = some s → (scells L)[i * 3]? = some (.int .i64 s.e) ∧ (scells L)[i * 3 + 1]? = some (.int .i64 s.a) ∧ (scells L)[i * 3 + 2]? = some (.int .i64 s.b) := by
  induction L with
  | nil => intro i s h; simp at h
  | cons x L ih =>
    intro i s h
    cases i with
    | zero =>
      simp only [List.getElem?_cons_zero, Option.some.injEq] at h
      subst h
      exact ⟨rfl, rfl, rfl⟩
    | succ i =>
      simp only [List.getElem?_cons_succ] at h
      obtain ⟨h0, h1, h2⟩ := ih h
      have e : scells (x :: L) = [.int .i64 x.e, .int .i64 x.a, .int .i64 x.b] ++ scells L := rfl
      have key : ∀ j : Nat, (scells (x :: L))[j + 3]? = (scells L)[j]? := by
        intro j
        rw [e, List.getElem?_append_right (by simp)]
        simp
      refine ⟨?_, ?_, ?_⟩
      · rw [show (i + 1) * 3 = i * 3 + 3 by omega, key]; exact h0
      · rw [show (i + 1) * 3 + 1 = (i * 3 + 1) + 3 by omega, key]; exact h1
      · rw [show (i + 1) * 3 + 2 = (i * 3 + 2) + 3 by omega, key]; exact h2
theorem scells_len (L : List Stp) : (scells L).length = L.length * 3 := by
  induction L with
  | nil => rfl
  | cons x L ih =>
    have e : scells (x :: L) = [.int .i64 x.e, .int .i64 x.a, .int .i64 x.b] ++ scells L := rfl
    rw [e, List.length_append, ih, List.length_cons]
    simp only [List.length_cons, List.length_nil]
    omega
/-- A store: all other blocks stay. -/
theorem gb_cell {w : World} {G i : Nat} {u : Value} : w.grownBy (w.setCell ⟨G, i, none⟩ u) (some G) :=
  ⟨rfl, rfl, rfl, by simp [World.setCell], fun k hk hne => Below.heap_setCell _ _ _ _ (fun e => hne (by rw [e]))⟩
theorem BRow.gb {w w' : World} {G hb N : Nat} {H : Nat → Bool} {T : HT} (h : BRow w G N H) (hh : HeapAt w hb T) (hg : w.grownBy w' (some hb)) : BRow w' G N H := by
  have hlt := h.lt
  obtain ⟨cs, h1, h2, h3⟩ := h
  refine ⟨cs, (hg.block G hlt (fun e => ?_)).trans h1, h2, h3⟩
  simp only [Option.some.injEq] at e
  subst e
  have := hh.1
  rw [h1] at this
  simp at this
theorem HeapAt.mark {w : World} {hb G i N : Nat} {T : HT} {H : Nat → Bool} {u : Value} (h : HeapAt w hb T) (hr : BRow w G N H) : HeapAt (w.setCell ⟨G, i, none⟩ u) hb T := by
  obtain ⟨cs, h1, _, _⟩ := hr
  have key : ∀ (b : Nat) (c : Array Value) (t : TypeId), t ≠ 4 → w.heap[b]? = some (.cells c t (0, 0)) → (w.setCell ⟨G, i, none⟩ u).heap[b]? = some (.cells c t (0, 0)) := by
    intro b c t ht hc
    rw [Below.heap_setCell _ _ _ _ ?_]
    · exact hc
    · rintro rfl
      rw [h1] at hc
      simp at hc
      exact ht hc.2.symm
  exact ⟨key _ _ _ (by decide) h.1, h.2.1.keep fun b c hc => key b c _ (by decide) hc, h.2.2⟩
theorem own_mark {w : World} {base e size n G i N : Nat} {v : Value} {xs : List Value} {H : Nat → Bool} {u : Value} (h : w.ownsRow base e size v n xs) (hr : BRow w G N H) (he : e ≠ 4) : (w.setCell ⟨G, i, none⟩ u).ownsRow base e size v n xs := by
  obtain ⟨cs, h1, _, _⟩ := hr
  exact h.kept gb_cell (.inr (own_none h h1 he))
/-- A box of another type, when a row is appended to. -/
theorem kept_box {wr w4 : World} {base s n b : Nat} {v : Value} {xs : List Value} {cs : Array Value} {e t : TypeId} {o : Obj} (hown : wr.ownsRow base e s v n xs) (hb : wr.heap[b]? = some (.cells cs t (0, 0))) (ht : e ≠ t) (hg : (wr.alloc o).grownBy w4 v.ownBlock) : w4.heap[b]? = some (.cells cs t (0, 0)) := by
  have hlt := heap_lt hb
  refine (hg.block b (by simp; omega) (fun h => ?_)).trans (((Below.alloc (Below.refl wr.heap.size wr) (Nat.le_refl _) o).block b hlt).trans hb)
  exact own_none hown hb ht h.symm
structure KSt (w : World) (nd : Int) (A : Option Addr) (n c : Nat) (At : Option Addr) (N ct : Nat) (D : List Int) (G hb : Nat) (H : Nat → Bool) (T : HT) (v : Value) (L : List Stp) (w' : World) : Prop where
  held : Held w nd A n c w'
  len : w'.ownsRow 0 3 1 (.slice At N ct) N (icells D)
  gone : BRow w' G N H
  heap : HeapAt w' hb T
  own : w'.ownsRow w.heap.size 54 3 v L.length (scells L)
  g : w.heap.size < G
  h : w.heap.size < hb
section
variable {w w' w'' : World} {nd : Int} {A At : Option Addr} {n c N ct G hb : Nat} {D : List Int} {H : Nat → Bool} {T : HT} {v : Value} {L : List Stp}
theorem KSt.next (h : KSt w nd A n c At N ct D G hb H T v L w') (hb' : Below w'.heap.size w' w'') : KSt w nd A n c At N ct D G hb H T v L w'' :=
  ⟨h.held.next hb', own_below h.len hb', h.gone.on hb', h.heap.below hb', own_below h.own hb', h.g, h.h⟩
theorem KSt.mark (h : KSt w nd A n c At N ct D G hb H T v L w') (i : Nat) : KSt w nd A n c At N ct D G hb (fun j => if j = i then true else H j) T v L (w'.setCell ⟨G, i, none⟩ (.bool true)) :=
  ⟨h.held.set h.g, own_mark h.len h.gone (by decide), h.gone.set true, h.heap.mark h.gone, own_mark h.own h.gone (by decide), h.g, h.h⟩
theorem KSt.count {p : Nat} (h : KSt w nd A n c At N ct D G hb H T v L w') (hp : T.cnt = p) : Calls Try.prog 27 #[.pointer (some ⟨hb, 0, none⟩)] w' fun e w'' => e = .returned (.int .i64 (p : Int)) ∧ w' = w'' := by
  rw [← hp]
  exact len_any hb T w' h.heap
theorem KSt.push (h : KSt w nd A n c At N ct D G hb H T v L w') (hc : T.cnt ≤ 900000) (x y : Int) : Calls Try.prog 26 #[.pointer (some ⟨hb, 0, none⟩), .int .i64 x, .int .i64 y] w' fun e w'' =>
    e = .returned (.tuple #[]) ∧ ∃ T', KSt w nd A n c At N ct D G hb H T' v L w'' ∧ T'.all.Perm ((x, y) :: T.all) ∧ w'.grownBy w'' (some hb) := by
  refine (push_any hb x y T w' h.heap hc).mono ?_
  rintro e' w'' ⟨rfl, T', hT, hp, hg⟩
  exact ⟨rfl, T', ⟨h.held.gb h.h hg, h.len.kept hg (.inr (own_none h.len h.heap.1 (by decide))), h.gone.gb h.heap hg, hT, h.own.kept hg (.inr (own_none h.own h.heap.1 (by decide))), h.g, h.h⟩, hp, hg⟩
theorem KSt.pop {b : Nat} {k y : Int} {m f : HT} (h : KSt w nd A n c At N ct D G hb H (.node b k y m f) v L w') (hc : (HT.node b k y m f).cnt ≤ 900000) : Calls Try.prog 28 #[.pointer (some ⟨hb, 0, none⟩)] w' fun e w'' =>
    e = .returned (.tuple #[.int .i64 k, .int .i64 y, .bool true]) ∧ ∃ T', KSt w nd A n c At N ct D G hb H T' v L w'' ∧ T'.all.Perm (m.all ++ f.all) := by
  refine (pop_some hb b k y m f w' h.heap hc).mono ?_
  rintro e' w'' ⟨rfl, T', hT, hp, hg⟩
  exact ⟨rfl, T', ⟨h.held.gb h.h hg, h.len.kept hg (.inr (own_none h.len h.heap.1 (by decide))), h.gone.gb h.heap hg, hT, h.own.kept hg (.inr (own_none h.own h.heap.1 (by decide))), h.g, h.h⟩, hp⟩
theorem KSt.app {v' : Value} {s : Stp} {o : Obj} (h : KSt w nd A n c At N ct D G hb H T v L w') (hg : (w'.alloc o).grownBy w'' v.ownBlock) (hown : w''.ownsRow w.heap.size 54 3 v' (L.length + 1) (scells L ++ [.int .i64 s.e, .int .i64 s.a, .int .i64 s.b])) : KSt w nd A n c At N ct D G hb H T v' (L ++ [s]) w'' := by
  have ba : Below w'.heap.size w' (w'.alloc o) := Below.alloc (Below.refl _ _) (Nat.le_refl _) _
  refine ⟨⟨Below.grown (h.held.1.alloc h.held.1.size o) hg (by have := h.held.1.size; simp; omega) (fun q hq => (h.own.lt q hq).1), kept_box h.own h.held.2 (by decide) hg⟩, ?_, ?_, ⟨kept_box h.own h.heap.1 (by decide) hg, h.heap.2.1.keep fun b c hc => kept_box h.own hc (by decide) hg, h.heap.2.2⟩, ?_, h.g, h.h⟩
  · exact (own_below h.len ba).kept hg (own_apart (own_below h.len ba) (own_below h.own ba) (by decide))
  · obtain ⟨cs, h1, h2⟩ := h.gone
    exact ⟨cs, kept_box h.own h1 (by decide) hg, h2⟩
  · rw [scells_app, List.length_append]
    exact hown
end
/-- How many bools of block G are true. -/
def isT : Value → Bool
  | .bool b => b
  | _ => false
def trues (w : World) (G : Nat) : Nat := match w.heap[G]? with
  | some (.cells cs _ _) => (cs.toList.filter isT).length
  | _ => 0
theorem BRow.trues {w : World} {G N : Nat} {H : Nat → Bool} (h : BRow w G N H) : trues w G = ((List.range N).filter H).length := by
  obtain ⟨cs, h1, h2, h3⟩ := h
  have e : cs.toList = (List.range N).map (fun i => Value.bool (H i)) := by
    apply List.ext_getElem?
    intro i
    rcases Nat.lt_or_ge i N with hi | hi
    · rw [Array.getElem?_toList, h3 i hi]; simp [List.getElem?_range hi]
    · rw [List.getElem?_eq_none (by simpa [h2] using hi), List.getElem?_eq_none (by simpa using hi)]
  unfold Go.Proofs.Ytcjilpgblbnebaa.trues
  rw [h1]
  simp only [e, List.filter_map, List.length_map]
  rfl
/-- One more. -/
theorem filt_one {H H' : Nat → Bool} {b : Nat} (h0 : H b = false) (h1 : ∀ j, H' j = if j = b then true else H j) : ∀ {L : List Nat}, L.Nodup → b ∈ L → (L.filter H').length = (L.filter H).length + 1 := by
  intro L
  induction L with
  | nil => intro _ h; cases h
  | cons x L ih =>
    intro hn hb
    rw [List.nodup_cons] at hn
    by_cases hx : x = b
    · subst hx
      have e1 : H' x = true := by rw [h1, if_pos rfl]
      have e2 : L.filter H' = L.filter H := List.filter_congr fun y hy => by
        rw [h1, if_neg]
        rintro rfl
        exact hn.1 hy
      rw [List.filter_cons_of_pos e1, List.filter_cons_of_neg (by rw [h0]; decide), e2]
      rfl
    · have hb' : b ∈ L := by
        rcases List.mem_cons.1 hb with h | h
        · exact absurd h.symm hx
        · exact h
      have e1 : H' x = H x := by rw [h1, if_neg hx]
      have := ih hn.2 hb'
      cases hh : H x with
      | true => rw [List.filter_cons_of_pos (by rw [e1, hh]), List.filter_cons_of_pos hh, List.length_cons, List.length_cons, this]
      | false => rw [List.filter_cons_of_neg (by rw [e1, hh]; decide), List.filter_cons_of_neg (by rw [hh]; decide), this]
/-- What is still to be done. -/
def potK (N : Nat) (w : World) (G hb : Nat) : Nat := (N - trues w G) * 1000 + hpN w hb
end Go.Proofs.Ytcjilpgblbnebaa
