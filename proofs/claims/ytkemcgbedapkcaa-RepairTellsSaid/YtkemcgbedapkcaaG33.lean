/- Merged: CtK CtL. -/
import Derived.Test.YtkemcgbedapkcaaG24
import Derived.Test.YtkemcgbedapkcaaG10
import Derived.Test.YtkemcgbedapkcaaG28
/- compile: the search, segment by segment, plainly. -/
namespace Go.Proofs.Ytkemcgbedapkcaa
open Go.RowKit
set_option maxHeartbeats 6400000
set_option maxRecDepth 100000
theorem segsA_sorted (N : Nat) (l : List Lnk) (v : Int) : (segsA N l v).Pairwise (fun a b => sgN N a < sgN N b) := by
  unfold segsA segU
  refine List.pairwise_append.2 ⟨?_, ?_, ?_⟩
  · refine List.pairwise_map.2 (List.pairwise_lt_range.imp (fun {a b} h => ?_))
    show (a : Int).toNat < (b : Int).toNat
    omega
  · refine List.pairwise_map.2 (List.Pairwise.imp_of_mem (fun {a b} ha hb h => ?_) (outS_sorted l v (2 * l.length)))
    obtain ⟨i, _, rfl, _⟩ := mem_outS.1 ha
    obtain ⟨j, _, rfl, _⟩ := mem_outS.1 hb
    show N + (i : Int).toNat < N + (j : Int).toNat
    omega
  · intro a ha b hb
    obtain ⟨i, hi, rfl⟩ := List.mem_map.1 ha
    obtain ⟨e, he, rfl⟩ := List.mem_map.1 hb
    obtain ⟨j, _, rfl, _⟩ := mem_outS.1 he
    have := List.mem_range.1 hi
    show (i : Int).toNat < N + (j : Int).toNat
    omega
theorem segsA_mem {N : Nat} {l : List Lnk} {v : Int} {s : Sg} (h : s ∈ segsA N l v) : s ∈ segsS N l := by
  unfold segsA segU at h
  unfold segsS
  rcases List.mem_append.1 h with h | h
  · exact List.mem_append_left _ h
  · obtain ⟨e, he, rfl⟩ := List.mem_map.1 h
    obtain ⟨j, hj, rfl, _⟩ := mem_outS.1 he
    exact List.mem_append_right _ (List.mem_map.2 ⟨j, List.mem_range.2 hj, rfl⟩)
theorem segsA_len (N : Nat) (l : List Lnk) (v : Int) : (segsA N l v).length ≤ N + 2 * l.length := by
  unfold segsA
  rw [List.length_append, segU_len, List.length_map]
  have := outS_len l v (2 * l.length)
  omega
section
variable {N : Nat} {l : List Lnk} {x : Wnt} {gn : List Bool}
theorem segO_here (hr : rightS N l x = 0) {p q : Int × Int} {s : Sg} (h : segO N l x gn p s.edge s.too = some q) : s ∈ segsA N l p.1 := by
  have hm := segO_mem hr h
  obtain ⟨e, t⟩ := s
  cases e with
  | false =>
    unfold segsA segU
    refine List.mem_append_left _ ?_
    unfold segsS at hm
    rcases List.mem_append.1 hm with hm | hm
    · exact hm
    · obtain ⟨i, _, he⟩ := List.mem_map.1 hm
      simp at he
  | true =>
    unfold segsA
    refine List.mem_append_right _ (List.mem_map.2 ⟨t, ?_, rfl⟩)
    unfold segO at h
    rw [if_pos rfl] at h
    change stepO N l x gn p.1 p.2 t = some q at h
    obtain ⟨K, a, b, j, -, -, h1, h0, hE, hv, -⟩ := stepO_form hr h
    refine mem_outS.2 ⟨t.toNat, by omega, by omega, ?_⟩
    rw [show ((t.toNat : Nat) : Int) = t by omega, hE, hv]
variable (N l x gn)
/-- What was found ahead of the q-th segment of the i-th list. -/
def QInv (d : Nat) (D : List ((Int × Int) × List Sg)) (i q : Nat) (p : Int × Int) (L : List Sg) : Prop :=
  ∃ t, BInv N l x gn d D i t ∧ D[i]? = some (p, L) ∧ L.length < d ∧ (∀ k s, q ≤ k → (segsA N l p.1)[k]? = some s → t ≤ sgN N s) ∧ ∀ s r, t ≤ sgN N s → segO N l x gn p s.edge s.too = some r → r ∈ D.map (·.1) ∨ ∃ k, q ≤ k ∧ (segsA N l p.1)[k]? = some s
variable {N l x gn}
theorem QInv.start (hr : rightS N l x = 0) {d : Nat} {D : List ((Int × Int) × List Sg)} {i : Nat} {p : Int × Int} {L : List Sg} (h : BInv N l x gn d D i 0) (hi : D[i]? = some (p, L)) (hd : L.length < d) : QInv N l x gn d D i 0 p L :=
  ⟨0, h, hi, hd, fun _ _ _ _ => Nat.zero_le _, fun s r _ hs => by
    obtain ⟨k, hk⟩ := List.mem_iff_getElem?.1 (segO_here hr hs)
    exact .inr ⟨k, Nat.zero_le _, hk⟩⟩
theorem segsA_lt {v : Int} {k k' : Nat} {s s' : Sg} (h : (segsA N l v)[k]? = some s) (h' : (segsA N l v)[k']? = some s') (hlt : k < k') : sgN N s < sgN N s' := by
  have := List.pairwise_iff_getElem.1 (segsA_sorted N l v) k k' (List.getElem?_eq_some_iff.1 h).1 (List.getElem?_eq_some_iff.1 h').1 hlt
  rw [(List.getElem?_eq_some_iff.1 h).2, (List.getElem?_eq_some_iff.1 h').2] at this
  exact this
/-- All between t and the q-th segment's number lead nowhere new. -/
theorem QInv.upto {d : Nat} {D : List ((Int × Int) × List Sg)} {i q : Nat} {p : Int × Int} {L : List Sg} {s : Sg} (h : QInv N l x gn d D i q p L) (hs : (segsA N l p.1)[q]? = some s) : BInv N l x gn d D i (sgN N s) := by
  obtain ⟨t, h1, h2, h3, h4, h5⟩ := h
  refine h1.seen (h4 q s (Nat.le_refl _) hs) (fun p' L' hi s' r ht hu hr' => ?_)
  rw [h2] at hi
  injection hi with hi
  injection hi with e1 e2
  subst e1 e2
  rcases h5 s' r ht hr' with h6 | ⟨k, hk, hk'⟩
  · exact h6
  · rcases Nat.eq_or_lt_of_le hk with rfl | hlt
    · rw [hs] at hk'
      injection hk' with hk'
      subst hk'
      omega
    · have := segsA_lt hs hk' hlt
      omega
theorem QInv.seen (hr : rightS N l x = 0) {d : Nat} {D : List ((Int × Int) × List Sg)} {i q : Nat} {p : Int × Int} {L : List Sg} {s : Sg} (h : QInv N l x gn d D i q p L) (hs : (segsA N l p.1)[q]? = some s) (ho : ∀ r, segO N l x gn p s.edge s.too = some r → r ∈ D.map (·.1)) : QInv N l x gn d D i (q + 1) p L := by
  have hu := h.upto hs
  obtain ⟨t, h1, h2, h3, h4, h5⟩ := h
  refine ⟨sgN N s + 1, hu.seen (Nat.le_succ _) (fun p' L' hi s' r ht hu' hr' => ?_), h2, h3, fun k s' hk hk' => segsA_lt hs hk' hk, fun s' r ht hr' => ?_⟩
  · rw [h2] at hi
    injection hi with hi
    injection hi with e1 e2
    subst e1 e2
    have : s' = s := sgN_inj (segO_mem hr hr') (segsA_mem (List.mem_of_getElem? hs)) (by omega)
    subst this
    exact ho r hr'
  · rcases h5 s' r (by have := h4 q s (Nat.le_refl _) hs; omega) hr' with h6 | ⟨k, hk, hk'⟩
    · exact .inl h6
    · rcases Nat.eq_or_lt_of_le hk with rfl | hlt
      · rw [hs] at hk'
        injection hk' with hk'
        subst hk'
        omega
      · exact .inr ⟨k, hlt, hk'⟩
theorem QInv.more (hg : GOk N l) (hr : rightS N l x = 0) {d : Nat} {D : List ((Int × Int) × List Sg)} {i q : Nat} {p r : Int × Int} {L : List Sg} {s : Sg} (h : QInv N l x gn d D i q p L) (hs : (segsA N l p.1)[q]? = some s) (ho : segO N l x gn p s.edge s.too = some r) (hnew : r ∉ D.map (·.1)) : QInv N l x gn d (D ++ [(r, L ++ [s])]) i (q + 1) p L := by
  have hu := h.upto hs
  obtain ⟨t, h1, h2, h3, h4, h5⟩ := h
  have hil := (List.getElem?_eq_some_iff.1 h2).1
  refine ⟨sgN N s + 1, hu.more hg hr h2 h3 rfl ho hnew, by rw [List.getElem?_append_left hil]; exact h2, h3, fun k s' hk hk' => segsA_lt hs hk' hk, fun s' r' ht hr' => ?_⟩
  rcases h5 s' r' (by have := h4 q s (Nat.le_refl _) hs; omega) hr' with h6 | ⟨k, hk, hk'⟩
  · exact .inl (by rw [List.map_append]; exact List.mem_append_left _ h6)
  · rcases Nat.eq_or_lt_of_le hk with rfl | hlt
    · rw [hs] at hk'
      injection hk' with hk'
      subst hk'
      omega
    · exact .inr ⟨k, hlt, hk'⟩
theorem QInv.fin (hr : rightS N l x = 0) {d : Nat} {D : List ((Int × Int) × List Sg)} {i q : Nat} {p : Int × Int} {L : List Sg} (h : QInv N l x gn d D i q p L) (hq : (segsA N l p.1).length ≤ q) : BInv N l x gn d D (i + 1) 0 := by
  obtain ⟨t, h1, h2, h3, h4, h5⟩ := h
  have h6 := h1.seen (u := t + (N + 2 * l.length)) (Nat.le_add_right _ _) (fun p' L' hi s' r ht hu' hr' => by
    rw [h2] at hi
    injection hi with hi
    injection hi with e1 e2
    subst e1 e2
    rcases h5 s' r ht hr' with h6 | ⟨k, hk, hk'⟩
    · exact h6
    · have := (List.getElem?_eq_some_iff.1 hk').1
      omega)
  exact h6.next hr h2 (fun _ => Nat.le_add_left _ _)
theorem QInv.binv {d : Nat} {D : List ((Int × Int) × List Sg)} {i q : Nat} {p : Int × Int} {L : List Sg} (h : QInv N l x gn d D i q p L) : ∃ t, BInv N l x gn d D i t ∧ D[i]? = some (p, L) ∧ L.length < d := by
  obtain ⟨t, h1, h2, h3, _⟩ := h
  exact ⟨t, h1, h2, h3⟩
end
end Go.Proofs.Ytkemcgbedapkcaa

/- compile: what the search holds. -/
namespace Go.Proofs.Ytkemcgbedapkcaa
open Go.RowKit
set_option maxHeartbeats 12800000
set_option maxRecDepth 100000
/-- A block of another type than a row's stays where the row is appended to. -/
theorem box_apart {w w' : World} {B base e size n : Nat} {v : Value} {xs : List Value} {o : Obj} {cs : Array Value} {T : TypeId} {fz : Nat × Nat} (hx : w.heap[B]? = some (.cells cs T fz)) (hown : w.ownsRow base e size v n xs) (hne : T ≠ e) (hg : (w.alloc o).grownBy w' v.ownBlock) : w'.heap[B]? = some (.cells cs T fz) := by
  have h1 := alloc_at (o := o) hx
  rw [hg.block B (blk_lt h1) (fun e1 => ?_), h1]
  rcases hown.2 with ⟨rfl, _⟩ | ⟨g, cap, cur, rfl, _, hg2, _⟩
  · cases e1
  · simp only [Value.ownBlock, Option.some.injEq] at e1
    subst e1
    rw [hx] at hg2
    simp at hg2
    exact hne hg2.2.1
theorem own_other {w w8 : World} {b1 e1 s1 n1 b2 e2 s2 n2 : Nat} {v1 v2 : Value} {xs ys : List Value} {o : Obj} (h : w.ownsRow b1 e1 s1 v1 n1 xs) (h2 : w.ownsRow b2 e2 s2 v2 n2 ys) (hne : e1 ≠ e2) (hg : (w.alloc o).grownBy w8 v2.ownBlock) : w8.ownsRow b1 e1 s1 v1 n1 xs :=
  (h.alloc o).kept hg (own_apart (h.alloc o) (h2.alloc o) hne)
theorem below_own {w w8 : World} {b e s n : Nat} {v : Value} {xs : List Value} {o : Obj} (h : w.ownsRow b e s v n xs) (hg : (w.alloc o).grownBy w8 v.ownBlock) (hb : b ≤ w.heap.size) : Below b w w8 :=
  Below.grown ((Below.refl b w).alloc hb o) hg (by simp; omega) (fun k hk => by
    have := (h.lt k hk).1
    exact this)
theorem RLnk.butM {w w' : World} {B M n : Nat} {A : Option Addr} {l : List Lnk} (h : RLnk w B A n l) (hb : But M w w') (hm : ∃ es ck, w.heap[M]? = some (.map es ck)) (hB : B ≤ w.heap.size) : RLnk w' B A n l := by
  refine ⟨h.1, fun hn => ?_⟩
  obtain ⟨b, off, hA, hlt, hc⟩ := h.2 hn
  have hne : b ≠ M := by
    rintro rfl
    obtain ⟨es, ck, hm⟩ := hm
    obtain ⟨x, hx0⟩ : ∃ x, l[0]? = some x := ⟨_, List.getElem?_eq_getElem (by have := h.1; omega)⟩
    have h0 := (hc 0 x hx0).1
    simp [World.cell?, hm] at h0
  have key : ∀ (j : Nat) (v : Value), w.cell? ⟨b, j, none⟩ = some v → w'.cell? ⟨b, j, none⟩ = some v := fun j v hv => (World.cell?_of_block (hb.block b (by omega) hne)).trans hv
  refine ⟨b, off, hA, hlt, fun i e he => ?_⟩
  obtain ⟨h0, h1, h2, h3⟩ := hc i e he
  exact ⟨key _ _ h0, key _ _ h1, key _ _ h2, key _ _ h3⟩
section
variable {N : Nat} {l : List Lnk} {x : Wnt} {gn : List Bool} {tp : Addr} {A : Option Addr} {n c : Nat} {Ap : Option Addr} {cp : Nat} {Ag : Option Addr} {cg : Nat} {Df : Option Addr} {cf kk : Nat}
/-- The boxes of search. -/
structure SrB (M : Nat) (N : Nat) (l : List Lnk) (x : Wnt) (gn : List Bool) (tp : Addr) (A : Option Addr) (n c : Nat) (Ap : Option Addr) (cp : Nat) (Ag : Option Addr) (cg : Nat) (Df : Option Addr) (cf kk : Nat) (s : Int) (A2 : Option Addr) (c2 : Nat) (y : WSl) (w w' : World) : Prop where
  x0 : w'.heap[w.heap.size]? = some (.cells #[.pointer (some tp), .int .i64 (N : Int), .slice A n c, .slice Ap (kk + 2) cp, .slice Ag n cg, .slice Df (kk + 1) cf, .int .i64 s, .map (some M)] 82 (0, 0))
  x1 : w'.heap[w.heap.size + 1]? = some (.cells #[.int .i64 (N : Int), .slice A2 n c2] 24 (0, 0))
  x2 : w'.heap[w.heap.size + 1 + 1]? = some (.cells #[.int .i64 x.frm, .int .i64 x.too, .int .i64 x.bnd, .slice y.av y.nv y.cv, .slice y.an y.nn y.cn, .slice y.al y.nl y.cl, .slice y.ac y.nc y.cc] 58 (0, 0))
  gw : GW M N l x gn tp A n c Ap cp Ag cg Df cf kk w'
  but : But M w w'
  lt : M < w.heap.size
  gr : RLnk w' w.heap.size A2 n l
end
section
variable {N : Nat} {l : List Lnk} {x : Wnt} {gn : List Bool} {tp : Addr} {A : Option Addr} {n c : Nat} {Ap : Option Addr} {cp : Nat} {Ag : Option Addr} {cg : Nat} {Df : Option Addr} {cf kk : Nat} {s : Int} {A2 : Option Addr} {c2 : Nat} {y : WSl}
theorem SrB.sz {M : Nat} {w w' : World} (h : SrB M N l x gn tp A n c Ap cp Ag cg Df cf kk s A2 c2 y w w') : w.heap.size ≤ w'.heap.size := h.but.size
theorem SrB.above {M : Nat} {w w' w'' : World} {B : Nat} (h : SrB M N l x gn tp A n c Ap cp Ag cg Df cf kk s A2 c2 y w w') (hb : Below B w' w'') (hB : w.heap.size + 1 + 1 < B) : SrB M N l x gn tp A n c Ap cp Ag cg Df cf kk s A2 c2 y w w'' := by
  have := h.lt
  exact ⟨box_below h.x0 hb (by omega), box_below h.x1 hb (by omega), box_below h.x2 hb (by omega), h.gw.above hb (by omega), h.but.mix hb (by omega), h.lt, h.gr.below (hb.mono (by omega))⟩
theorem SrB.next {M : Nat} {w w' w'' : World} (h : SrB M N l x gn tp A n c Ap cp Ag cg Df cf kk s A2 c2 y w w') (hb : Below w'.heap.size w' w'') : SrB M N l x gn tp A n c Ap cp Ag cg Df cf kk s A2 c2 y w w'' := h.above hb (blk_lt h.x2)
theorem SrB.put {M : Nat} {w w' w'' : World} (h : SrB M N l x gn tp A n c Ap cp Ag cg Df cf kk s A2 c2 y w w') (hb : But M w' w'') (hg : GW M N l x gn tp A n c Ap cp Ag cg Df cf kk w'') : SrB M N l x gn tp A n c Ap cp Ag cg Df cf kk s A2 c2 y w w'' :=
  ⟨box_but h.x0 hb (by have := h.lt; omega), box_but h.x1 hb (by have := h.lt; omega), box_but h.x2 hb (by have := h.lt; omega), hg, h.but.trans hb, h.lt, h.gr.butM hb h.gw.map.isMap h.sz⟩
theorem SrB.app {M : Nat} {w w' w'' : World} {va : Value} {k : Nat} {xs : List Value} {o : Obj} (h : SrB M N l x gn tp A n c Ap cp Ag cg Df cf kk s A2 c2 y w w') (hown : w'.ownsRow w.heap.size 108 3 va k xs) (hg : (w'.alloc o).grownBy w'' va.ownBlock) : SrB M N l x gn tp A n c Ap cp Ag cg Df cf kk s A2 c2 y w w'' := by
  have hb := below_own hown hg h.sz
  exact ⟨box_apart h.x0 hown (by decide) hg, box_apart h.x1 hown (by decide) hg, box_apart h.x2 hown (by decide) hg, h.gw.above hb h.lt, h.but.mix hb (Nat.le_refl _), h.lt, h.gr.below hb⟩
theorem MetB.app {w' w'' : World} {va : Value} {k b B : Nat} {xs : List Value} {o : Obj} {S : List (Int × Int)} (h : MetB w' B S) (hown : w'.ownsRow b 108 3 va k xs) (hg : (w'.alloc o).grownBy w'' va.ownBlock) : MetB w'' B S := by
  obtain ⟨cs, h1, h2⟩ := h
  exact ⟨cs, box_apart h1 hown (by decide) hg, h2⟩
end
/-- The cells of the lists found. -/
def ldc (D : List ((Int × Int) × List Sg)) (vs : List Value) : List Value := (D.zip vs).flatMap fun a => [.int .i64 a.1.1.1, .int .i64 a.1.1.2, a.2]
theorem ldc_len {D : List ((Int × Int) × List Sg)} {vs : List Value} (h : vs.length = D.length) : (ldc D vs).length = D.length * 3 := by
  have : ∀ (z : List (((Int × Int) × List Sg) × Value)), (z.flatMap fun a => [Value.int .i64 a.1.1.1, .int .i64 a.1.1.2, a.2]).length = z.length * 3 := by
    intro z
    induction z with
    | nil => rfl
    | cons a z ih => rw [List.flatMap_cons, List.length_append, ih]; simp; omega
  unfold ldc
  rw [this, List.length_zip, h, Nat.min_self]
theorem ldc_at {D : List ((Int × Int) × List Sg)} {vs : List Value} {j : Nat} {p : Int × Int} {L : List Sg} {v : Value} (h : D[j]? = some (p, L)) (hv : vs[j]? = some v) : (ldc D vs)[j * 3]? = some (.int .i64 p.1) ∧ (ldc D vs)[j * 3 + 1]? = some (.int .i64 p.2) ∧ (ldc D vs)[j * 3 + 2]? = some v := by
  have key : ∀ (z : List (((Int × Int) × List Sg) × Value)) (j : Nat) (a), z[j]? = some a → (z.flatMap fun a => [Value.int .i64 a.1.1.1, .int .i64 a.1.1.2, a.2])[j * 3]? = some (.int .i64 a.1.1.1) ∧ (z.flatMap fun a => [Value.int .i64 a.1.1.1, .int .i64 a.1.1.2, a.2])[j * 3 + 1]? = some (.int .i64 a.1.1.2) ∧ (z.flatMap fun a => [Value.int .i64 a.1.1.1, .int .i64 a.1.1.2, a.2])[j * 3 + 2]? = some a.2 := by
    intro z
    induction z with
    | nil => intro j a h; simp at h
    | cons b z ih =>
      intro j a h
      rw [List.flatMap_cons]
      cases j with
      | zero => simp at h; subst h; simp
      | succ j =>
        have := ih j a (by simpa using h)
        rw [show (j + 1) * 3 = j * 3 + 1 + 1 + 1 by omega]
        simpa using this
  have := key (D.zip vs) j ((p, L), v) (List.getElem?_zip_eq_some.2 ⟨h, hv⟩)
  exact this
theorem ldc_snoc {D : List ((Int × Int) × List Sg)} {vs : List Value} {q : Int × Int} {L : List Sg} {v : Value} (h : vs.length = D.length) : ldc (D ++ [(q, L)]) (vs ++ [v]) = ldc D vs ++ [.int .i64 q.1, .int .i64 q.2, v] := by
  unfold ldc
  rw [List.zip_append h.symm, List.flatMap_append]
  rfl
/-- The lists found, as they lie. -/
structure LdS (w w' : World) (va : Value) (vs : List Value) (D : List ((Int × Int) × List Sg)) (B12 : Nat) (g1 g2 : Int) : Prop where
  go : w'.heap[B12]? = some (.cells #[.int .i64 g1, .int .i64 g2] 92 (0, 0))
  gl : w.heap.size + 1 + 1 + 1 < B12
  ld : w'.ownsRow w.heap.size 108 3 va D.length (ldc D vs)
  ls : ∀ (j : Nat) (v : Value), vs[j]? = some v → ∃ (p : Int × Int) (L : List Sg), D[j]? = some (p, L) ∧ w'.ownsRow 0 46 2 v L.length (scells2 L)
  vl : vs.length = D.length
theorem LdS.next {w w' w'' : World} {va : Value} {vs : List Value} {D : List ((Int × Int) × List Sg)} {B12 : Nat} {g1 g2 : Int} (h : LdS w w' va vs D B12 g1 g2) (hb : Below w'.heap.size w' w'') : LdS w w'' va vs D B12 g1 g2 :=
  ⟨box_below h.go hb (blk_lt h.go), h.gl, own_below h.ld hb, fun j v hv => by obtain ⟨p, L, h1, h2⟩ := h.ls j v hv; exact ⟨p, L, h1, own_below h2 hb⟩, h.vl⟩
theorem LdS.butM {w w' w'' : World} {M : Nat} {va : Value} {vs : List Value} {D : List ((Int × Int) × List Sg)} {B12 : Nat} {g1 g2 : Int} (h : LdS w w' va vs D B12 g1 g2) (hb : But M w' w'') (hm : ∃ es ck, w'.heap[M]? = some (.map es ck)) (hM : M < w.heap.size) : LdS w w'' va vs D B12 g1 g2 :=
  ⟨box_but h.go hb (by have := h.gl; omega), h.gl, own_butM h.ld hb hm, fun j v hv => by obtain ⟨p, L, h1, h2⟩ := h.ls j v hv; exact ⟨p, L, h1, own_butM h2 hb hm⟩, h.vl⟩
theorem LdS.met {w w' w'' : World} {S : List (Int × Int)} {va : Value} {vs : List Value} {D : List ((Int × Int) × List Sg)} {B12 : Nat} {g1 g2 : Int} (h : LdS w w' va vs D B12 g1 g2) (hb : But (w.heap.size + 1 + 1 + 1) w' w'') (hm : MetB w' (w.heap.size + 1 + 1 + 1) S) : LdS w w'' va vs D B12 g1 g2 := by
  obtain ⟨cs, hx, _⟩ := hm
  exact ⟨box_but h.go hb (by have := h.gl; omega), h.gl, own_but h.ld hb hx (by decide), fun j v hv => by obtain ⟨p, L, h1, h2⟩ := h.ls j v hv; exact ⟨p, L, h1, own_but h2 hb hx (by decide)⟩, h.vl⟩
theorem LdS.app {w w' w'' : World} {va va' v : Value} {vs : List Value} {D : List ((Int × Int) × List Sg)} {B12 : Nat} {g1 g2 q1 q2 : Int} {L : List Sg} {o : Obj} (h : LdS w w' va vs D B12 g1 g2) (hv : w'.ownsRow 0 46 2 v L.length (scells2 L)) (hg : (w'.alloc o).grownBy w'' va.ownBlock)
    (hown : w''.ownsRow w.heap.size 108 3 va' (D.length + 1) (ldc D vs ++ [.int .i64 q1, .int .i64 q2, v])) : LdS w w'' va' (vs ++ [v]) (D ++ [((q1, q2), L)]) B12 g1 g2 := by
  refine ⟨box_apart h.go h.ld (by decide) hg, h.gl, ?_, fun j u hu => ?_, by simp [h.vl]⟩
  · rw [ldc_snoc h.vl, List.length_append, List.length_singleton]; exact hown
  · rcases Nat.lt_or_ge j vs.length with hlt | hge
    · rw [List.getElem?_append_left hlt] at hu
      obtain ⟨p, L', h1, h2⟩ := h.ls j u hu
      exact ⟨p, L', by rw [List.getElem?_append_left (by have := h.vl; omega)]; exact h1, own_other h2 h.ld (by decide) hg⟩
    · have hj : j = vs.length := by
        have := (List.getElem?_eq_some_iff.1 hu).1
        simp at this; omega
      subst hj
      rw [List.getElem?_append_right (Nat.le_refl _), Nat.sub_self] at hu
      simp at hu
      subst hu
      refine ⟨(q1, q2), L, ?_, own_other hv h.ld (by decide) hg⟩
      rw [h.vl, List.getElem?_append_right (Nat.le_refl _), Nat.sub_self]; rfl
theorem own_ne3 {w : World} {base n B : Nat} {v : Value} {xs : List Value} {x0 x1 x2 : Value} {T : TypeId} {fz : Nat × Nat} (h : w.ownsRow base 108 3 v n xs) (hx : w.heap[B]? = some (.cells #[x0, x1, x2] T fz)) (hn : 2 ≤ n) : v.ownBlock ≠ some B := by
  intro e
  rcases h.2 with ⟨rfl, _⟩ | ⟨g, cap, cur, rfl, _, hg, h1, _, h2, _⟩
  · cases e
  · simp only [Value.ownBlock, Option.some.injEq] at e
    subst e
    rw [hx] at hg
    simp at hg
    rw [← hg.1] at h2
    simp at h2
    omega
section
variable {N : Nat} {l : List Lnk} {x : Wnt} {gn : List Bool} {tp : Addr} {A : Option Addr} {n c : Nat} {Ap : Option Addr} {cp : Nat} {Ag : Option Addr} {cg : Nat} {Df : Option Addr} {cf kk : Nat} {s : Int} {A2 : Option Addr} {c2 : Nat} {y : WSl}
/-- Within a round over the segments. -/
structure Inn (M : Nat) (N : Nat) (l : List Lnk) (x : Wnt) (gn : List Bool) (tp : Addr) (A : Option Addr) (n c : Nat) (Ap : Option Addr) (cp : Nat) (Ag : Option Addr) (cg : Nat) (Df : Option Addr) (cf kk : Nat) (s : Int) (A2 : Option Addr) (c2 : Nat) (y : WSl) (va : Value) (vs : List Value) (D : List ((Int × Int) × List Sg)) (B12 : Nat) (g1 g2 : Int) (Bh : Nat) (p1 p2 : Int) (vh vq : Value) (Q : List Sg) (w w' : World) : Prop where
  sb : SrB M N l x gn tp A n c Ap cp Ag cg Df cf kk s A2 c2 y w w'
  ld : LdS w w' va vs D B12 g1 g2
  hr : w'.heap[Bh]? = some (.cells #[.int .i64 p1, .int .i64 p2, vh] 108 (0, 0))
  hl : w.heap.size + 1 + 1 + 1 < Bh
  sg : w'.ownsRow 0 46 2 vq Q.length (scells2 Q)
  ap : va.ownBlock ≠ some Bh
variable {va : Value} {vs : List Value} {D : List ((Int × Int) × List Sg)} {B12 : Nat} {g1 g2 : Int} {Bh : Nat} {p1 p2 : Int} {vh vq : Value} {Q : List Sg}
theorem Inn.next {M : Nat} {w w' w'' : World} (h : Inn M N l x gn tp A n c Ap cp Ag cg Df cf kk s A2 c2 y va vs D B12 g1 g2 Bh p1 p2 vh vq Q w w') (hb : Below w'.heap.size w' w'') : Inn M N l x gn tp A n c Ap cp Ag cg Df cf kk s A2 c2 y va vs D B12 g1 g2 Bh p1 p2 vh vq Q w w'' :=
  ⟨h.sb.next hb, h.ld.next hb, box_below h.hr hb (blk_lt h.hr), h.hl, own_below h.sg hb, h.ap⟩
theorem Inn.put {M : Nat} {w w' w'' : World} (h : Inn M N l x gn tp A n c Ap cp Ag cg Df cf kk s A2 c2 y va vs D B12 g1 g2 Bh p1 p2 vh vq Q w w') (hb : But M w' w'') (hg : GW M N l x gn tp A n c Ap cp Ag cg Df cf kk w'') : Inn M N l x gn tp A n c Ap cp Ag cg Df cf kk s A2 c2 y va vs D B12 g1 g2 Bh p1 p2 vh vq Q w w'' :=
  ⟨h.sb.put hb hg, h.ld.butM hb h.sb.gw.map.isMap h.sb.lt, box_but h.hr hb (by have := h.hl; have := h.sb.lt; omega), h.hl, own_butM h.sg hb h.sb.gw.map.isMap, h.ap⟩
theorem Inn.met {M : Nat} {w w' w'' : World} {S : List (Int × Int)} (h : Inn M N l x gn tp A n c Ap cp Ag cg Df cf kk s A2 c2 y va vs D B12 g1 g2 Bh p1 p2 vh vq Q w w') (hb : But (w.heap.size + 1 + 1 + 1) w' w'') (hm : MetB w' (w.heap.size + 1 + 1 + 1) S) : Inn M N l x gn tp A n c Ap cp Ag cg Df cf kk s A2 c2 y va vs D B12 g1 g2 Bh p1 p2 vh vq Q w w'' := by
  have hm' := hm
  obtain ⟨cs, hx, _⟩ := hm
  have hb' : Below (w.heap.size + 1 + 1 + 1) w' w'' := hb.below (Nat.le_refl _) (Nat.le_of_lt hm'.lt)
  exact ⟨h.sb.above hb' (Nat.lt_succ_self _), h.ld.met hb hm', box_but h.hr hb (by have := h.hl; omega), h.hl, own_but h.sg hb hx (by decide), h.ap⟩
theorem Inn.app {M : Nat} {w w' w'' : World} {va' v : Value} {q1 q2 : Int} {L : List Sg} {o : Obj} (h : Inn M N l x gn tp A n c Ap cp Ag cg Df cf kk s A2 c2 y va vs D B12 g1 g2 Bh p1 p2 vh vq Q w w') (hv : w'.ownsRow 0 46 2 v L.length (scells2 L)) (hg : (w'.alloc o).grownBy w'' va.ownBlock)
    (hown : w''.ownsRow w.heap.size 108 3 va' (D.length + 1) (ldc D vs ++ [.int .i64 q1, .int .i64 q2, v])) (hD : 1 ≤ D.length) : Inn M N l x gn tp A n c Ap cp Ag cg Df cf kk s A2 c2 y va' (vs ++ [v]) (D ++ [((q1, q2), L)]) B12 g1 g2 Bh p1 p2 vh vq Q w w'' := by
  have hhr : w''.heap[Bh]? = some (.cells #[.int .i64 p1, .int .i64 p2, vh] 108 (0, 0)) := by
    have h1 := alloc_at (o := o) h.hr
    rw [hg.block Bh (blk_lt h1) (fun e1 => h.ap e1.symm), h1]
  exact ⟨h.sb.app h.ld.ld hg, h.ld.app hv hg hown, hhr, h.hl, own_other h.sg h.ld.ld (by decide) hg, own_ne3 hown hhr (by omega)⟩
end
end Go.Proofs.Ytkemcgbedapkcaa
