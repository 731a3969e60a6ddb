/- Merged: DjD DjE DjF. -/
import Derived.Test.YtkemcgbedapkcaaG03
import Derived.Test.YtkemcgbedapkcaaG18
import Derived.Deep.RegionHeld3
/- What From holds while it runs: the row of lengths, the heap, the graph's box. -/
namespace Go.Proofs.Ytkemcgbedapkcaa
open Go.RowKit
set_option maxHeartbeats 3200000
set_option maxRecDepth 100000
theorem heap_new (w : World) : HeapAt (w.alloc (.cells #[.pointer none] 142)) w.heap.size .nil := ⟨heap_alloc_new w _, trivial, trivial⟩
theorem gb_below {w w' : World} {B hb : Nat} (h : w.grownBy w' (some hb)) (hB : B ≤ hb) (hs : B ≤ w.heap.size) : Below B w w' := Below.grown (Below.refl _ _) h hs (fun k hk => by simp at hk; omega)
theorem HeapAt.below {w w' : World} {hb : Nat} {T : HT} (h : HeapAt w hb T) (hw : Below w.heap.size w w') : HeapAt w' hb T := ⟨(hw.block hb (heap_lt h.1)).trans h.1, h.2.1.below hw, h.2.2⟩
theorem own_none {w : World} {base e size n k : Nat} {v : Value} {xs : List Value} {t : TypeId} {c : Array Value} {fz : Nat × Nat} (hown : w.ownsRow base e size v n xs) (ho : w.heap[k]? = some (.cells c t fz)) (he : e ≠ t) : v.ownBlock ≠ some k := by
  rcases hown.2 with ⟨rfl, _⟩ | ⟨g, cap, cur, rfl, _, hg, _⟩
  · simp [Value.ownBlock]
  · simp only [Value.ownBlock, ne_eq, Option.some.injEq]
    rintro rfl
    rw [ho] at hg
    simp at hg
    exact he hg.2.1.symm
theorem HeapAt.set {w : World} {hb G i : Nat} {T : HT} {d : List Int} {u : Value} (h : HeapAt w hb T) (hr : IRow w G d) : HeapAt (w.setCell ⟨G, i, none⟩ u) hb T := by
  have hr' : w.heap[G]? = some (.cells (icells d).toArray 3 (0, 0)) := hr
  have key : ∀ (b : Nat) (c : Array Value) (t : TypeId), t ≠ 3 → w.heap[b]? = some (.cells c t (0, 0)) → (w.setCell ⟨G, i, none⟩ u).heap[b]? = some (.cells c t (0, 0)) := by
    intro b c t ht hc
    rw [Below.heap_setCell _ _ _ _ ?_]
    · exact hc
    · rintro rfl
      rw [hr'] at hc
      simp at hc
      exact ht hc.2.symm
  exact ⟨key _ _ _ (by decide) h.1, h.2.1.keep fun b c hc => key b c _ (by decide) hc, h.2.2⟩
theorem IRow.gb {w w' : World} {G hb : Nat} {d : List Int} {T : HT} (h : IRow w G d) (hh : HeapAt w hb T) (hg : w.grownBy w' (some hb)) : IRow w' G d := by
  have h' : w.heap[G]? = some (.cells (icells d).toArray 3 (0, 0)) := h
  refine (hg.block G h.lt (fun e => ?_)).trans h'
  simp only [Option.some.injEq] at e
  subst e
  have := hh.1
  rw [h'] at this
  simp at this
theorem Held.gb {w w1 w2 : World} {nd : Int} {A : Option Addr} {n c hb : Nat} (h : Held w nd A n c w1) (hlt : w.heap.size < hb) (hg : w1.grownBy w2 (some hb)) : Held w nd A n c w2 :=
  ⟨h.1.trans (gb_below hg (by omega) h.1.size), (hg.block _ h.lt (fun e => by simp only [Option.some.injEq] at e; omega)).trans h.2⟩
/-- The state. -/
structure DSt (w : World) (nd : Int) (A : Option Addr) (n c G hb : Nat) (d : List Int) (T : HT) (w' : World) : Prop where
  row : IRow w' G d
  heap : HeapAt w' hb T
  held : Held w nd A n c w'
  g : w.heap.size < G
  h : w.heap.size < hb
theorem DSt.next {w w' w'' : World} {nd : Int} {A : Option Addr} {n c G hb : Nat} {d : List Int} {T : HT} (h : DSt w nd A n c G hb d T w') (hb' : Below w'.heap.size w' w'') : DSt w nd A n c G hb d T w'' :=
  ⟨h.row.on hb', h.heap.below hb', h.held.next hb', h.g, h.h⟩
theorem DSt.drew {w w' : World} {nd : Int} {A : Option Addr} {n c G hb : Nat} {d : List Int} {T : HT} (h : DSt w nd A n c G hb d T w') : DSt w nd A n c G hb d T w'.drew := h.next ((Below.refl _ _).drew)
theorem DSt.drewN {w w' : World} {nd : Int} {A : Option Addr} {n c G hb : Nat} {d : List Int} {T : HT} (h : DSt w nd A n c G hb d T w') (k : Nat) : DSt w nd A n c G hb d T (w'.drewN k) := h.next (below_drewN (Below.refl _ _))
theorem DSt.set {w w' : World} {nd : Int} {A : Option Addr} {n c G hb i : Nat} {d : List Int} {T : HT} (h : DSt w nd A n c G hb d T w') (x : Int) : DSt w nd A n c G hb (d.set i x) T (w'.setCell ⟨G, i, none⟩ (.int .i64 x)) :=
  ⟨h.row.set x, h.heap.set h.row, h.held.set h.g, h.g, h.h⟩
theorem DSt.len {w w' : World} {nd : Int} {A : Option Addr} {n c G hb p : Nat} {d : List Int} {T : HT} (h : DSt w nd A n c G hb d T w') (hp : T.cnt = p) : Calls Try.prog 74 #[.pointer (some ⟨hb, 0, none⟩)] w' fun e w'' => e = .returned (.int .i64 (p : Int)) ∧ w' = w'' := by
  rw [← hp]
  exact len_any hb T w' h.heap
theorem DSt.push {w w' : World} {nd : Int} {A : Option Addr} {n c G hb : Nat} {d : List Int} {T : HT} (h : DSt w nd A n c G hb d T w') (hc : T.cnt ≤ 900000) (x v : Int) : Calls Try.prog 73 #[.pointer (some ⟨hb, 0, none⟩), .int .i64 x, .int .i64 v] w' fun e w'' =>
    e = .returned (.tuple #[]) ∧ ∃ T', DSt w nd A n c G hb d T' w'' ∧ T'.all.Perm ((x, v) :: T.all) ∧ w'.grownBy w'' (some hb) := by
  refine (push_any hb x v T w' h.heap hc).mono ?_
  rintro e' w'' ⟨rfl, T', hT, hp, hg⟩
  exact ⟨rfl, T', ⟨h.row.gb h.heap hg, hT, h.held.gb h.h hg, h.g, h.h⟩, hp, hg⟩
theorem DSt.pop {w w' : World} {nd : Int} {A : Option Addr} {n c G hb b : Nat} {d : List Int} {k v : Int} {m f : HT} (h : DSt w nd A n c G hb d (.node b k v m f) w') (hc : (HT.node b k v m f).cnt ≤ 900000) : Calls Try.prog 75 #[.pointer (some ⟨hb, 0, none⟩)] w' fun e w'' =>
    e = .returned (.tuple #[.int .i64 k, .int .i64 v, .bool true]) ∧ ∃ T', DSt w nd A n c G hb d T' w'' ∧ T'.all.Perm (m.all ++ f.all) := by
  refine (pop_some hb b k v m f w' h.heap hc).mono ?_
  rintro e' w'' ⟨rfl, T', hT, hp, hg⟩
  exact ⟨rfl, T', ⟨h.row.gb h.heap hg, hT, h.held.gb h.h hg, h.g, h.h⟩, hp⟩
/-- How much waits in the heap of block hb. -/
def hpN (w : World) (hb : Nat) : Nat := match w.heap[hb]? with
  | some (.cells cs _ _) => match cs.getD 0 undef with
    | Value.pointer (some a) => match w.heap[a.block]? with
      | some (.cells ds _ _) => (intOf (ds.getD 2 undef)).toNat
      | _ => 0
    | _ => 0
  | _ => 0
theorem HeapAt.hpN {w : World} {hb : Nat} {T : HT} (h : HeapAt w hb T) : hpN w hb = T.cnt := by
  unfold Go.Proofs.Ytkemcgbedapkcaa.hpN
  rw [h.1]
  cases T with
  | nil => rfl
  | node b k v m f =>
    have := h.2.1.1
    show (match w.heap[b]? with
      | some (.cells ds _ _) => (intOf (ds.getD 2 undef)).toNat
      | _ => 0) = _
    rw [this]
    show (1 + (m.cnt : Int) + (f.cnt : Int)).toNat = m.cnt + f.cnt + 1
    omega
/-- What is still to be done. -/
def potD (nd : Nat) (w : World) (G hb : Nat) : Nat := (nd - (match w.heap[G]? with
  | some (.cells cs _ _) => lab (cs.toList.map intOf)
  | _ => 0)) * 1000 + hpN w hb
theorem DSt.pot {w w' : World} {nd : Int} {N : Nat} {A : Option Addr} {n c G hb : Nat} {d : List Int} {T : HT} (h : DSt w nd A n c G hb d T w') : potD N w' G hb = (N - lab d) * 1000 + T.cnt := by
  have h' : w'.heap[G]? = some (.cells (icells d).toArray 3 (0, 0)) := h.row
  unfold potD
  rw [h.heap.hpN, h']
  simp only [icells, List.map_map]
  congr 4
  exact (List.map_congr_left (fun x _ => rfl)).trans (List.map_id _)
end Go.Proofs.Ytkemcgbedapkcaa

/- spf.From. -/
namespace Go.Proofs.Ytkemcgbedapkcaa
open Go.RowKit
set_option maxHeartbeats 6400000
set_option maxRecDepth 100000
theorem from_not (nd : Int) (A : Option Addr) (n c : Nat) (l : List Lnk) (Ad : Option Addr) (n' c' : Nat) (dn : List Bool) (s : Int) (w : World) (hr : RLnk w w.heap.size A n l) (h : ¬((checkS nd l).2 = 0 ∧ 0 ≤ s ∧ s < nd)) :
    Calls Try.prog 59 #[.agg #[.int .i64 nd, .slice A n c], .slice Ad n' c', .int .i64 s] w (IntAns (fromS nd l dn s) w) := by
  have Q : fromS nd l dn s = [] := by unfold fromS; rw [if_neg h]
  rw [Q]
  have hS := Held.start w nd A n c
  have HK := hid (fun (w' : World) (h : Held w nd A n c w') => h.calls (hasNode_any nd A n c l s w' (h.on hr)))
  have hb : hasNodeS nd l s = false := by unfold hasNodeS; rw [decide_eq_false_iff_not]; exact h
  rw [hb] at HK
  obtain ⟨g0, g1⟩ := hS.cells
  clear hr h hb Q
  go_enter Try.func59, Try.ntmps59
  go_wp2_with (go_at_call 60; (with_reducible refine (HK.out _ hS).mono ?_); rintro e' w1 ⟨rfl, h1⟩; obtain ⟨g2, g3⟩ := h1.cells)
  go_ret
  exact ⟨_, rfl, World.ownsRow_nil _ _ _ _, h1.1⟩
theorem repeat_held {w : World} {N : Nat} {A : Option Addr} {n c : Nat} (hN0 : 1 ≤ N) (hN : N ≤ 40) (w2 : World) (h : Held w (N : Int) A n c w2) :
    Calls Try.prog 72 #[.slice (some ⟨w2.heap.size, 0, none⟩) 1 1, .int .i64 (N : Int)] (w2.alloc (.cells #[.int .i64 (-1)] 3)) fun e w' => ∃ G, e = .returned (.slice (some ⟨G, 0, none⟩) N N) ∧ IRow w' G (List.replicate N (-1)) ∧ w.heap.size < G ∧ Held w (N : Int) A n c w' := by
  have hb : Below w2.heap.size w2 (w2.alloc (.cells #[.int .i64 (-1)] 3)) := Below.alloc (Below.refl _ _) (Nat.le_refl _) _
  refine (repeat_any N w2.heap.size (-1) _ hN0 hN (by simp) ?_).mono ?_
  · rw [cell_of_row _ _ _ _ _ _ (heap_alloc_new w2 _)]; rfl
  · rintro e' w' ⟨G, rfl, hG, hR, hb'⟩
    have := h.lt
    exact ⟨G, rfl, hR, by simp at hG; omega, (h.next hb).next hb'⟩
/-- The state, and a row of edges that Out made. -/
structure DSo (w : World) (nd : Int) (A : Option Addr) (n c G hb : Nat) (d : List Int) (A7 : Option Addr) (mE c7 : Nat) (E : List Int) (T : HT) (w' : World) : Prop where
  st : DSt w nd A n c G hb d T w'
  own : w'.ownsRow 0 3 1 (.slice A7 mE c7) mE (icells E)
theorem DSo.next {w w' w'' : World} {nd : Int} {A : Option Addr} {n c G hb : Nat} {d : List Int} {A7 : Option Addr} {mE c7 : Nat} {E : List Int} {T : HT} (h : DSo w nd A n c G hb d A7 mE c7 E T w') (hb' : Below w'.heap.size w' w'') : DSo w nd A n c G hb d A7 mE c7 E T w'' :=
  ⟨h.st.next hb', own_below h.own hb'⟩
theorem DSo.drew {w w' : World} {nd : Int} {A : Option Addr} {n c G hb : Nat} {d : List Int} {A7 : Option Addr} {mE c7 : Nat} {E : List Int} {T : HT} (h : DSo w nd A n c G hb d A7 mE c7 E T w') : DSo w nd A n c G hb d A7 mE c7 E T w'.drew := h.next ((Below.refl _ _).drew)
theorem DSo.push {w w' : World} {nd : Int} {A : Option Addr} {n c G hb : Nat} {d : List Int} {A7 : Option Addr} {mE c7 : Nat} {E : List Int} {T : HT} (h : DSo w nd A n c G hb d A7 mE c7 E T w') (hc : T.cnt ≤ 900000) (x v : Int) : Calls Try.prog 73 #[.pointer (some ⟨hb, 0, none⟩), .int .i64 x, .int .i64 v] w' fun e w'' =>
    e = .returned (.tuple #[]) ∧ ∃ T', DSo w nd A n c G hb d A7 mE c7 E T' w'' ∧ T'.all.Perm ((x, v) :: T.all) := by
  refine (h.st.push hc x v).mono ?_
  rintro e' w'' ⟨rfl, T', hst, hp, hg⟩
  exact ⟨rfl, T', ⟨hst, h.own.kept hg (.inr (own_none h.own h.st.heap.1 (by decide)))⟩, hp⟩
theorem out_st {w w' : World} {nd : Int} {A : Option Addr} {n c G hb f : Nat} {d d' : List Int} {T : HT} {l : List Lnk} {node : Int} {E : List Int} {mE : Nat} {args : Array Value} (hE : outS l node (2 * l.length) = E) (hmE : E.length = mE) (hd : d = d') (hc : Calls Try.prog f args w' (OutAns l node w')) (h : DSt w nd A n c G hb d T w') :
    Calls Try.prog f args w' fun e w'' => ∃ A7 c7, e = .returned (.slice A7 mE c7) ∧ DSo w nd A n c G hb d' A7 mE c7 E T w'' := by
  refine hc.mono ?_
  rintro e' w'' ⟨v, rfl, hown, hb'⟩
  rw [hE, hmE] at hown
  obtain ⟨A', c', rfl, _, _⟩ := own_ints hown hmE
  subst hd
  exact ⟨A', c', rfl, h.next hb', own_mono hown (Nat.zero_le _)⟩
theorem from_in (nd : Nat) (A : Option Addr) (n c : Nat) (l : List Lnk) (Ad : Option Addr) (n' c' : Nat) (dn : List Bool) (s : Nat) (w : World) (hr : RLnk w w.heap.size A n l) (hd : RBl w w.heap.size Ad n' dn) (h : (checkS (nd : Int) l).2 = 0) (hs : s < nd) :
    Calls Try.prog 59 #[.agg #[.int .i64 (nd : Int), .slice A n c], .slice Ad n' c', .int .i64 (s : Int)] w (IntAns (fromS (nd : Int) l dn (s : Int)) w) := by
  have hg := gok_of h
  have Q : fromS (nd : Int) l dn (s : Int) = distS nd l dn s := by unfold fromS; rw [if_pos ⟨h, by omega, by omega⟩]; rfl
  rw [Q]
  have hS := Held.start w (nd : Int) A n c
  have HK := hid (fun (w' : World) (h : Held w (nd : Int) A n c w') => h.calls (hasNode_any (nd : Int) A n c l (s : Int) w' (h.on hr)))
  have hb : hasNodeS (nd : Int) l (s : Int) = true := by unfold hasNodeS; rw [decide_eq_true_iff]; exact ⟨h, by omega, by omega⟩
  rw [hb] at HK
  obtain ⟨g0, g1⟩ := hS.cells
  have hn : n ≤ 120 := by rw [← hr.1]; exact hg.1
  have hl := hr.1
  have hnd : nd ≤ 40 := hg.2.2.1
  have HRp := hid (fun (w2 : World) (h : Held w (nd : Int) A n c w2) => repeat_held hg.2.1 hnd w2 h)
  have HG := hid hg
  have HO := hid (fun (b : Nat) (w' : World) (h : Held w (nd : Int) A n c w') => out_any (nd : Int) A n c l (b : Int) w' (h.on hr) (by omega))
  have HDn := hid (fun (k : Nat) (hk : k < 240) (w' : World) (h : Held w (nd : Int) A n c w') => isDown2_any Ad n' c' dn k w' (hd.on h.1) (by omega))
  have HM := hid (fun (k : Nat) (hk : k < 2 * n) (w' : World) (h : Held w (nd : Int) A n c w') => metric_any (nd : Int) A n c l k w' (h.on hr) hk (by omega))
  have HE := hid (fun (k : Nat) (hk : k < 2 * n) (w' : World) (h : Held w (nd : Int) A n c w') => end_any (nd : Int) A n c l k w' (h.on hr) hk (by omega))
  have HD0 := hid (DInv.start (dn := dn) hg hs)
  clear hr hd h hb Q hg
  go_enter Try.func59, Try.ntmps59
  go_wp2_with (first
    | (go_at_call 60; (with_reducible refine (HK.out _ hS).mono ?_); rintro e' w1 ⟨rfl, h1⟩; obtain ⟨g2, g3⟩ := h1.cells; obtain ⟨g4, g5⟩ := (h1.next ((Below.refl _ _).alloc (Nat.le_refl _) (.cells #[.int .i64 (-1)] 3))).cells)
    | (go_at_call 72; (with_reducible refine (HRp.out _ h1).mono ?_); rintro e' w3 ⟨G, rfl, hR3, hG3, h3⟩; have HP := hid (DSt.push (T := .nil) ⟨hR3.on ((Below.refl _ _).alloc (Nat.le_refl _) _), heap_new w3, h3.next ((Below.refl _ _).alloc (Nat.le_refl _) _), hG3, by have := h3.lt; omega⟩ (by simp [HT.cnt]) 0 (s : Int)); clear hR3)
    | (go_at_call 73; (with_reducible refine HP.out.mono ?_); rintro e' w4 ⟨rfl, T1, hst1, hp1, _⟩; have HS1 := hid hst1; have HP1 := hid hp1; clear hst1 hp1))
  obtain ⟨hb, hhb⟩ : ∃ hb, w3.heap.size = hb := ⟨_, rfl⟩
  rw [hhb] at HS1
  simp only [hhb]
  have HD1 : Hid (DInv nd l dn s (List.replicate nd (-1)) T1.all []) := hid (HD0.out.perm (HP1.out.trans (by simp [HT.all])))
  have HC1 : Hid (T1.cnt ≤ 1 + lab (List.replicate nd (-1 : Int)) * 240) := by
    show _ ≤ _
    rw [perm_cnt HP1.out]; simp [HT.all]
  clear hhb HP HP1 HD0 HRp HK g0 g1 g2 g3 g4 g5 h3 hG3 h1 hS
  go_loopw [9, 10, 11] (fun _ _ _ wr => ∃ (d : List Int) (T : HT), Hid (DSt w (nd : Int) A n c G hb d T wr) ∧ Hid (DInv nd l dn s d T.all []) ∧ Hid (T.cnt ≤ 1 + lab d * 240)) (fun _ _ _ wr => potD nd wr G hb)
  case atStart => exact ⟨_, T1, HS1, HD1, HC1⟩
  case round =>
    obtain ⟨d, T, HSt, HDi, HCn⟩ := hrel
    obtain ⟨e0, e1⟩ := HSt.out.held.cells
    have hlabd : lab d ≤ 40 := by have := lab_le d; have h2 := HDi.out.len; omega
    cases T with
    | nil =>
      have HL := hid (HSt.out.len (p := 0) rfl)
      have HDD := hid (HDi.out.done)
      go_wp2_with (go_at_call 74; (with_reducible refine HL.out.mono ?_); rintro _ _ ⟨rfl, rfl⟩)
      go_ret
      exact ⟨_, rfl, by rw [distS_eq HG.out HDD.out, HDi.out.len]; exact HSt.out.row.owned HDi.out.len (Nat.le_of_lt HSt.out.g) (by unfold maxLen; omega), HSt.out.held.1⟩
    | node b0 x v m f =>
      obtain ⟨b, hbn, hvb, hx0, hx1, _, _⟩ := HDi.out.wait (x, v) (by simp [HT.all])
      simp only at hvb hx0 hx1
      subst hvb
      obtain ⟨p, hp⟩ : ∃ p, (HT.node b0 x (b : Int) m f).cnt = p := ⟨_, rfl⟩
      have hp0 : 0 < p := by rw [← hp, HT.cnt]; omega
      have hp1 : p ≤ 1 + lab d * 240 := hp ▸ HCn.out
      have HL := hid (HSt.out.len hp)
      have t0 : decide ((0 : Int) < (p : Int)) = true := by simp; omega
      have HPop := hid (HSt.out.pop (by rw [hp]; omega))
      have Hord := hid HSt.out.heap.2.2
      have HMS := hid (HSt.out.pot (N := nd))
      rw [hp] at HMS
      have Hlen := hid HDi.out.len
      have Gb := hid (dAt_get (d := d) (v := b) (by rw [Hlen.out]; exact hbn))
      have Hlow := HDi.out.low b hbn
      have Hle : Hid (∀ q ∈ m.all ++ f.all, x ≤ q.1) := fun q hq => by
        have := Hord.out.1 q hq
        unfold le2 at this; simp only at this; omega
      obtain ⟨db, hdb⟩ : ∃ db, dAt d (b : Int) = db := ⟨_, rfl⟩
      rw [hdb] at Gb Hlow
      have Hdb := hid hdb
      have Hp := hid hp
      clear hdb hp hx1
      by_cases hc : 0 ≤ db
      · have t1 : (db != -1) = true := by simp; omega
        go_wp2_with (first
          | (go_at_call 74; (with_reducible refine HL.out.mono ?_); rintro _ _ ⟨rfl, rfl⟩)
          | (go_at_call 75; (with_reducible refine HPop.out.mono ?_); rintro e' w5 ⟨rfl, T5, hst5, hp5⟩; have HS5 := hid hst5; have HP5 := hid hp5; have c5 := hst5.row.cell Gb.out; clear hst5 hp5))
        have HDi5 : Hid (DInv nd l dn s d T5.all []) := ((HDi.out.skip (b := b) (by rw [Hdb.out]; exact hc) hbn).perm HP5.out)
        have HCn5 : Hid (T5.cnt + 1 = p) := by
          show _ = _
          rw [perm_cnt HP5.out, ← Hp.out, List.length_append, HT.len, HT.len]; rfl
        go_roundw
        case rel => exact ⟨d, T5, HS5, HDi5, by show _ ≤ _; have := HCn5.out; omega⟩
        case measure => rw [HMS.out, HS5.out.pot]; have := HCn5.out; omega
      · have t1 : (db != -1) = false := by simp; omega
        obtain ⟨htk, hx2, hx3, hlab, hmax⟩ := HDi.out.take HG.out (b := b) (by rw [Hdb.out]; omega) hbn Hle.out
        obtain ⟨d', hd'⟩ : ∃ d', d.set b x = d' := ⟨_, rfl⟩
        obtain ⟨E, hE⟩ : ∃ E, outS l (b : Int) (2 * l.length) = E := ⟨_, rfl⟩
        obtain ⟨mE, hmE⟩ : ∃ mE, E.length = mE := ⟨_, rfl⟩
        have hmE2 : mE ≤ 2 * n := by rw [← hmE, ← hE, ← hl]; exact outS_len l b _
        have Hdb' : Hid (dAt d' (b : Int) = x) := by show _ = _; rw [← hd', dAt_set (by rw [Hlen.out]; exact hbn), if_pos rfl]
        rw [hd', hE] at htk
        rw [hd'] at hlab hmax
        have HTk := hid htk
        have Hmax := hid hmax
        have Hlab := hid hlab
        clear htk hmax hlab
        have HE2 := hid hE
        have HmE := hid hmE
        have Hd' := hid hd'
        clear hd' hE hmE
        go_wp2_with (first
          | (go_at_call 74; (with_reducible refine HL.out.mono ?_); rintro _ _ ⟨rfl, rfl⟩)
          | (go_at_call 75; (with_reducible refine HPop.out.mono ?_); rintro e' w5 ⟨rfl, T5, hst5, hp5⟩; have HP5 := hid hp5; have c5 := hst5.row.cell Gb.out; have f5 := hst5.row.frozen b; obtain ⟨q0, q1⟩ := (hst5.set (i := b) x).held.cells; have HO5 := hid (out_st HE2.out HmE.out Hd'.out (HO.out b _ (hst5.set (i := b) x).held) (hst5.set (i := b) x)); clear hst5 hp5)
          | (go_at_call 61; (with_reducible refine HO5.out.mono ?_); rintro e' w7 ⟨A7, c7, rfl, hst7⟩; have HS7 := hid hst7; clear hst7))
        have HDi7 : Hid (DInv nd l dn s d' T5.all (E.drop 0)) := by show DInv _ _ _ _ _ _ _; rw [List.drop_zero]; exact HTk.out.perm HP5.out
        have HC7 : Hid (T5.cnt + 1 ≤ p + 0) := by
          show _ ≤ _
          rw [perm_cnt HP5.out, ← Hp.out, List.length_append, HT.len, HT.len, HT.cnt]; omega
        clear c5 f5 q0 q1 e0 e1 HO5 HPop HL
        go_loopw [13, 44] (fun _ ii wx => ∃ (i : Nat) (T6 : HT), i ≤ mE ∧ ii = .int .i64 i ∧ Hid (DSo w (nd : Int) A n c G hb d' A7 mE c7 E T6 wx) ∧ Hid (DInv nd l dn s d' T6.all (E.drop i)) ∧ Hid (T6.cnt + 1 ≤ p + i)) (fun _ ii _ => mE - (intOf ii).toNat)
        case atStart => exact ⟨0, T5, Nat.zero_le _, rfl, HS7, HDi7, HC7⟩
        case round =>
          obtain ⟨i, T6, hi, rfl, HSx, HDx, HCx⟩ := hrel
          obtain ⟨y0, y1⟩ := HSx.out.st.held.cells
          by_cases hlt : i < mE
          · obtain ⟨ei, hei⟩ : ∃ ei, E[i]? = some ei := ⟨E[i]'(by rw [HmE.out]; exact hlt), List.getElem?_eq_getElem _⟩
            obtain ⟨k, rfl, hk, hf, _⟩ := row_next (HE2.out ▸ hei)
            obtain ⟨_, _, _, _, hR7⟩ := own_ints HSx.out.own HmE.out
            obtain ⟨b7, o7, rfl, hb7, hc7⟩ := hR7.2 (by omega)
            have cE := hc7 i _ hei
            have Hdrop : Hid (E.drop i = (k : Int) :: E.drop (i + 1)) := by
              show _ = _
              obtain ⟨hil, hie⟩ := List.getElem?_eq_some_iff.1 hei
              rw [List.drop_eq_getElem_cons hil, hie]
            have hk2 : k < 2 * n := by rw [← hl]; exact hk
            have HDk := hid (HDn.out k (by omega))
            cases hu : isDn dn (k / 2) with
            | true =>
              rw [hu] at HDk
              have HDj : Hid (DInv nd l dn s d' T6.all (E.drop (i + 1))) := DInv.shut (k := k) (Hdrop.out ▸ HDx.out) hu
              clear hu hei hc7
              go_wp2_with (go_at_call 62; (with_reducible refine (HDk.out _ HSx.out.st.held).mono ?_); rintro _ _ ⟨rfl, rfl⟩)
              go_roundw
              case rel => exact ⟨i + 1, T6, by omega, by go_num, HSx, HDj, by show _ ≤ _; have := HCx.out; omega⟩
              case measure => simp [intOf]; omega
            | false =>
              rw [hu] at HDk
              obtain ⟨a, b', xl, _, _, hfa, hto, hme, ha, hb', _, hm1, hm2⟩ := edge_facts HG.out hk
              obtain rfl : a = b := by rw [hf] at hfa; omega
              have HDj := hid (DInv.edge (k := k) (m := xl.m) (Hdrop.out ▸ HDx.out) hk hu hfa hto hme ha hb' hm1 hm2 Hdb'.out hx2 Hmax.out)
              have HMk := hid (HM.out k hk2)
              have HEk := hid (HE.out k hk2)
              rw [hme] at HMk
              rw [hto] at HEk
              obtain ⟨mm, hmm⟩ : ∃ mm, xl.m = mm := ⟨_, rfl⟩
              rw [hmm] at HMk HDj hm1 hm2
              have hwr : IntKind.i64.wrap (x + mm) = x + mm := by rw [IntKind.wrap_i64]; omega
              have hT6 : T6.cnt ≤ 900000 := by have := HCx.out; omega
              clear hu hei hc7 hfa hto hme hmm hf hk
              go_wp2_with (go_at_call 62; (with_reducible refine (HDk.out _ HSx.out.st.held).mono ?_); rintro _ _ ⟨rfl, rfl⟩)
              have HSd := hid HSx.out.drew
              obtain ⟨yd0, yd1⟩ := HSd.out.st.held.cells
              go_region_held3 (fun w' => w'.cell? ⟨w.heap.size, 0, none⟩ = some (.int .i64 (nd : Int)) ∧ w'.cell? ⟨w.heap.size, 1, none⟩ = some (.slice A n c))
                (first
                  | go_keep
                  | exact s10
                  | exact s9
                  | exact s8)
                (first
                  | (go_at_call 65; (with_reducible refine (HMk.out _ HSd.out.st.held).mono ?_); rintro e' w8 ⟨rfl, b8⟩; have st8 := HSd.out.next b8; have s8 := st8.st.held.cells; have HS8 := hid st8; clear st8)
                  | (go_at_call 64; (with_reducible refine (HEk.out _ HS8.out.st.held).mono ?_); rintro e' w9 ⟨rfl, b9⟩; have st9 := HS8.out.next b9; have s9 := st9.st.held.cells; have HPu := hid (st9.push hT6 (x + mm) (b' : Int)); clear st9)
                  | (go_at_call 73; (with_reducible refine HPu.out.mono ?_); rintro e' w10 ⟨rfl, T10, st10, hp10⟩; have s10 := st10.st.held.cells; have HS10 := hid st10; have HP10 := hid hp10; clear st10 hp10))
              have HDn10 : Hid (DInv nd l dn s d' T10.all (E.drop (i + 1))) := HDj.out.perm HP10.out
              have HC10 : Hid (T10.cnt = T6.cnt + 1) := by show _ = _; rw [perm_cnt HP10.out, List.length_cons, HT.len]
              clear hwr
              go_wp2_with fail
              go_roundw
              case rel => exact ⟨i + 1, T10, by omega, by go_num, HS10, HDn10, by show _ ≤ _; have := HCx.out; have := HC10.out; omega⟩
              case measure => simp [intOf]; omega
          · obtain rfl : i = mE := by omega
            have HDz : Hid (DInv nd l dn s d' T6.all []) := by
              have := HDx.out
              rw [List.drop_of_length_le (by rw [HmE.out]; omega)] at this
              exact this
            have hl2 := lab_le d'
            have hl3 := HDz.out.len
            have hl4 := Hlab.out
            have hl5 := HCx.out
            have HF : Hid (potD nd wr G hb = (nd - lab d') * 1000 + T6.cnt) := HSx.out.st.pot
            go_wp2_with fail
            go_roundw
            case rel => exact ⟨d', T6, HSx.out.st, HDz, by show _ ≤ _; omega⟩
            case measure => rw [HMS.out, HF.out]; omega
theorem from_spec : FromSpec 59 := by
  intro nd A n c l Ad n' c' dn s w hg hd _ _
  by_cases h : (checkS nd l).2 = 0 ∧ 0 ≤ s ∧ s < nd
  · obtain ⟨N, rfl⟩ := Int.eq_ofNat_of_zero_le (show 0 ≤ nd by omega)
    obtain ⟨S, rfl⟩ := Int.eq_ofNat_of_zero_le h.2.1
    exact from_in N A n c l Ad n' c' dn S w hg.row hd.row h.1 (by omega)
  · exact from_not nd A n c l Ad n' c' dn s w hg.row h
theorem to_spec : FromSpec 43 := by
  intro nd A n c l Ad n' c' dn s w hg hd hs1 hs2
  have hS := Held.start w nd A n c
  have HF := hid (from_spec nd A n c l Ad n' c' dn s _ (hg.on hS.1) (hd.on hS.1) hs1 hs2)
  obtain ⟨g0, g1⟩ := hS.cells
  obtain ⟨X, hX⟩ : ∃ X, fromS nd l dn s = X := ⟨_, rfl⟩
  rw [hX] at HF ⊢
  clear hg hd hX
  go_enter Try.func43, Try.ntmps43
  go_wp2_with (go_at_call 59; (with_reducible refine HF.out.mono ?_); rintro e' w1 ⟨v, rfl, hown, hb1⟩; have HO := hid hown; clear hown)
  go_ret
  exact ⟨_, rfl, own_mono HO.out (by simp), hS.1.trans (hb1.mono (by simp))⟩
end Go.Proofs.Ytkemcgbedapkcaa

/- spf.Next. -/
namespace Go.Proofs.Ytkemcgbedapkcaa
open Go.RowKit
set_option maxHeartbeats 6400000
set_option maxRecDepth 100000
/-- What the program asks of an edge. -/
def onP (l : List Lnk) (dn : List Bool) (to : List Int) (node : Int) (e : Int) : Bool := !isDn dn (e.toNat / 2) && isNextS (dAt to node) (dAt to (tov l e.toNat)) (met l e.toNat)
theorem onP_onS {l : List Lnk} {dn : List Bool} {to : List Int} {node : Int} (h : 0 < dAt to node) : onP l dn to node = onS l dn to node := by
  funext e
  unfold onP onS isNextS
  rw [Bool.and_assoc]
  congr 1
  rw [Bool.eq_iff_iff]
  simp only [decide_eq_true_eq, Bool.and_eq_true, beq_iff_eq]
  exact ⟨fun h1 => ⟨h1.2.1, h1.2.2⟩, fun h1 => ⟨h, h1.1, h1.2⟩⟩
theorem next_eq {nd : Int} {l : List Lnk} {dn : List Bool} {to : List Int} {v : Int} (h1 : (checkS nd l).2 = 0) (h2 : (to.length : Int) = nd) (h3 : 0 ≤ v) (h4 : v < nd) : nextS nd l dn to v = (outS l v (2 * l.length)).filter (onP l dn to v) := by
  by_cases h : 0 < dAt to v
  · unfold nextS
    rw [if_pos ⟨h1, h2, h3, h4, h⟩, onP_onS h]
  · unfold nextS
    rw [if_neg (fun hh => h hh.2.2.2.2)]
    symm
    rw [List.filter_eq_nil_iff]
    intro e _ he
    unfold onP isNextS at he
    simp only [Bool.and_eq_true, decide_eq_true_eq] at he
    exact h he.2.1
theorem next_no (nd : Int) (A : Option Addr) (n c : Nat) (l : List Lnk) (Ad : Option Addr) (n' c' : Nat) (dn : List Bool) (At : Option Addr) (n2 c2 : Nat) (to : List Int) (s : Int) (w : World) (hr : RLnk w w.heap.size A n l) (ht : RInt w w.heap.size At n2 to)
    (h : ¬((checkS nd l).2 = 0 ∧ 0 ≤ s ∧ s < nd ∧ (n2 : Int) = nd)) :
    Calls Try.prog 44 #[.agg #[.int .i64 nd, .slice A n c], .slice Ad n' c', .slice At n2 c2, .int .i64 s] w (IntAns (nextS nd l dn to s) w) := by
  have Q : nextS nd l dn to s = [] := by unfold nextS; rw [if_neg (fun hh => h ⟨hh.1, hh.2.2.1, hh.2.2.2.1, by rw [← ht.1]; exact hh.2.1⟩)]
  rw [Q]
  have hS := Held.start w nd A n c
  have HK := hid (fun (w' : World) (h : Held w nd A n c w') => h.calls (hasNode_any nd A n c l s w' (h.on hr)))
  obtain ⟨g0, g1⟩ := hS.cells
  by_cases h2 : (checkS nd l).2 = 0 ∧ 0 ≤ s ∧ s < nd
  · have hb : hasNodeS nd l s = true := by unfold hasNodeS; rw [decide_eq_true_iff]; exact h2
    rw [hb] at HK
    have t3 : ((n2 : Int) != nd) = true := by simp; exact fun e => h ⟨h2.1, h2.2.1, h2.2.2, e⟩
    clear hr ht h h2 hb Q
    go_enter Try.func44, Try.ntmps44
    go_wp2_with (go_at_call 60; (with_reducible refine (HK.out _ hS).mono ?_); rintro e' w1 ⟨rfl, h1⟩; obtain ⟨g2, g3⟩ := h1.cells)
    go_ret
    exact ⟨_, rfl, World.ownsRow_nil _ _ _ _, h1.1⟩
  · have hb : hasNodeS nd l s = false := by unfold hasNodeS; rw [decide_eq_false_iff_not]; exact h2
    rw [hb] at HK
    clear hr ht h h2 hb Q
    go_enter Try.func44, Try.ntmps44
    go_wp2_with (go_at_call 60; (with_reducible refine (HK.out _ hS).mono ?_); rintro e' w1 ⟨rfl, h1⟩; obtain ⟨g2, g3⟩ := h1.cells)
    go_ret
    exact ⟨_, rfl, World.ownsRow_nil _ _ _ _, h1.1⟩
theorem next_in (nd : Nat) (A : Option Addr) (n c : Nat) (l : List Lnk) (Ad : Option Addr) (n' c' : Nat) (dn : List Bool) (At : Option Addr) (c2 : Nat) (to : List Int) (v : Nat) (w : World) (hr : RLnk w w.heap.size A n l) (hd : RBl w w.heap.size Ad n' dn) (ht : RInt w w.heap.size At nd to)
    (h : (checkS (nd : Int) l).2 = 0) (hv : v < nd) (hto : ∀ x ∈ to, -1099511627776 ≤ x ∧ x ≤ 1099511627776) :
    Calls Try.prog 44 #[.agg #[.int .i64 (nd : Int), .slice A n c], .slice Ad n' c', .slice At nd c2, .int .i64 (v : Int)] w (IntAns (nextS (nd : Int) l dn to (v : Int)) w) := by
  have hg := gok_of h
  have hlen := ht.1
  have Q := next_eq (dn := dn) (to := to) (v := (v : Int)) h (by omega) (by omega) (by omega)
  rw [Q]
  have hS := Held.start w (nd : Int) A n c
  have HK := hid (fun (w' : World) (h : Held w (nd : Int) A n c w') => h.calls (hasNode_any (nd : Int) A n c l (v : Int) w' (h.on hr)))
  have hb : hasNodeS (nd : Int) l (v : Int) = true := by unfold hasNodeS; rw [decide_eq_true_iff]; exact ⟨h, by omega, by omega⟩
  rw [hb] at HK
  obtain ⟨g0, g1⟩ := hS.cells
  obtain ⟨i5, hi, hz0, hz1, hz2⟩ := info_parts (show (Try.prog.info? 3).map (fun i => (i.zero, i.size, i.bytes)) = some (some (.int .i64 0), 1, 8) by kernel_rfl)
  have Ai := hid hi; have Az0 := hid hz0; have Az1 := hid hz1; have Az2 := hid hz2
  clear hi hz0 hz1 hz2
  have hn : n ≤ 120 := by rw [← hr.1]; exact hg.1
  have hl := hr.1
  have hnd : nd ≤ 40 := hg.2.2.1
  have HG := hid hg
  have HDn := hid (fun (k : Nat) (hk : k < 240) (w' : World) (h : Held w (nd : Int) A n c w') => isDown2_any Ad n' c' dn k w' (hd.on h.1) (by omega))
  have HM := hid (fun (k : Nat) (hk : k < 2 * n) (w' : World) (h : Held w (nd : Int) A n c w') => metric_any (nd : Int) A n c l k w' (h.on hr) hk (by omega))
  have HE := hid (fun (k : Nat) (hk : k < 2 * n) (w' : World) (h : Held w (nd : Int) A n c w') => end_any (nd : Int) A n c l k w' (h.on hr) hk (by omega))
  have HO := hid (fun (w' : World) (h' : Held w (nd : Int) A n c w') => held_out h' (out_any (nd : Int) A n c l (v : Int) w' (h'.on hr) (by omega)))
  have HB := hid hto
  obtain ⟨L, hL⟩ : ∃ L, outS l (v : Int) (2 * l.length) = L := ⟨_, rfl⟩
  obtain ⟨m, hM⟩ : ∃ m, L.length = m := ⟨_, rfl⟩
  have hm : m ≤ 240 := by rw [← hM, ← hL]; exact Nat.le_trans (outS_len _ _ _) (by omega)
  simp only [hL, hM] at HO ⊢
  have HLs := hid hL
  have HM2 := hid hM
  have Hlen := hid hlen
  obtain ⟨bT, ot, rfl, hbt, hct⟩ := ht.2 (by omega)
  have HCT := hid hct
  have ct := hct v _ (dAt_get (by omega))
  obtain ⟨dv, hdv⟩ : ∃ dv, dAt to (v : Int) = dv := ⟨_, rfl⟩
  have HDV := hid hdv
  have hdv2 := hto _ (List.mem_of_getElem? (dAt_get (d := to) (v := v) (by omega)))
  rw [hdv] at ct hdv2
  have Hdv2 := hid hdv2
  have Ct := hid ct
  have t3 : ((nd : Int) != (nd : Int)) = false := by simp
  obtain ⟨P, hP⟩ : ∃ P, onP l dn to (v : Int) = P := ⟨_, rfl⟩
  rw [hP]
  have HP := hid hP
  clear hr hd h hb Q hg ht hto hL hM hct ct hdv hdv2 hlen hP
  go_enter Try.func44, Try.ntmps44
  go_wp2_with (first
    | (go_at_call 60; (with_reducible refine (HK.out _ hS).mono ?_); rintro e' w1 ⟨rfl, h1⟩; obtain ⟨g2, g3⟩ := h1.cells)
    | (go_at_call 61; (with_reducible refine (HO.out _ h1).mono ?_); rintro e' w5 ⟨A6, c6, rfl, hi5, hb5, h5⟩; have HI5 := hid hi5; clear hi5))
  clear g0 g1 g2 g3 hS HK HO
  go_loopw [9, 11, 27] (fun vv _ i wr => ∃ k : Nat, k ≤ m ∧ i = .int .i64 k ∧ Hid (wr.ownsRow w5.heap.size 3 1 vv ((L.take k).filter P).length (icells ((L.take k).filter P))) ∧ Hid (Below w5.heap.size w5 wr)) (fun _ _ i _ => m - (intOf i).toNat)
  case atStart => exact ⟨0, Nat.zero_le _, rfl, World.ownsRow_nil _ _ _ _, Below.refl _ _⟩
  case round =>
    obtain ⟨k, hk, rfl, HOw, HBw⟩ := hrel
    have HHw := hid (h5.next HBw.out)
    by_cases hkm : k < m
    · obtain ⟨xx, hx⟩ : ∃ x, L[k]? = some x := ⟨L[k]'(by rw [HM2.out]; exact hkm), List.getElem?_eq_getElem _⟩
      have HX := hid hx
      have hx' := hx
      rw [← HLs.out] at hx'
      obtain ⟨e, rfl, he, _, _⟩ := row_next hx'
      rw [hl] at he
      have HF := hid (take_filter_succ P hx)
      have hfl := filter_len L k P
      have HFl := hid hfl
      obtain ⟨a, b, x, hxl, _, hf, htv, hmt, ha, hbn, _, hm1, hm2⟩ := edge_facts HG.out (k := e) (by rw [hl]; exact he)
      have hev : P (e : Int) = (!isDn dn (e / 2) && isNextS dv (dAt to (b : Int)) x.m) := by
        rw [← HP.out]; unfold onP; rw [Int.toNat_natCast, htv, hmt, HDV.out]
      have Hev := hid hev
      have HDk := hid (HDn.out e (by omega))
      have HMk := hid (HM.out e he)
      have HEk := hid (HE.out e he)
      rw [hmt] at HMk
      rw [htv] at HEk
      obtain ⟨mm, hm'⟩ : ∃ mm, x.m = mm := ⟨_, rfl⟩
      rw [hm'] at HMk Hev hm1 hm2
      have Gb := dAt_get (d := to) (v := b) (by rw [Hlen.out]; exact hbn)
      have hdb := HB.out _ (List.mem_of_getElem? Gb)
      have cB := hid (HCT.out b _ Gb)
      obtain ⟨db, hdb'⟩ : ∃ db, dAt to (b : Int) = db := ⟨_, rfl⟩
      rw [hdb'] at hdb cB Hev
      have HN := hid (fun (w' : World) => isNext_any dv db mm w' Hdv2.out hdb)
      obtain ⟨b6, o6, rfl, hb6, hc6⟩ := HI5.out.2 (by omega)
      have cL := hid (hc6 k _ HX.out)
      clear hf htv hmt hx hx' hev hfl hxl hc6 hdb' hm' Gb hdb ha hm1 hm2
      have HAll : Hid (∀ w', Below wr.drew.heap.size wr.drew w' → (Held w (nd : Int) A n c w' ∧ Below w5.heap.size w5 w' ∧ w'.ownsRow w5.heap.size 3 1 u9 ((L.take k).filter P).length (icells ((L.take k).filter P))) ∧ (w'.cell? ⟨w.heap.size, 0, none⟩ = some (.int .i64 (nd : Int)) ∧ w'.cell? ⟨w.heap.size, 1, none⟩ = some (.slice A n c) ∧ w'.cell? ⟨b6, o6 + k, none⟩ = some (.int .i64 (e : Int)) ∧ w'.cell? ⟨bT, ot + v, none⟩ = some (.int .i64 dv) ∧ w'.cell? ⟨bT, ot + b, none⟩ = some (.int .i64 db))) := by
        intro w' hb'
        have h5' := HHw.out.drew.next hb'
        have hb5' : Below w5.heap.size w5 w' := HBw.out.drew.trans (hb'.mono HBw.out.size)
        have hoD : wr.drew.ownsRow w5.heap.size 3 1 u9 ((L.take k).filter P).length (icells ((L.take k).filter P)) := HOw.out
        exact ⟨⟨h5', hb5', own_below hoD hb'⟩, h5'.cells.1, h5'.cells.2, (hb5'.cell (p := ⟨b6, o6 + k, none⟩) hb6).trans cL.out, (h5'.1.cell (p := ⟨bT, ot + v, none⟩) hbt).trans Ct.out, (h5'.1.cell (p := ⟨bT, ot + b, none⟩) hbt).trans cB.out⟩
      have sD := (HAll.out _ (Below.refl _ _)).2
      have hhD := HHw.out.drew
      have ec0 := (HBw.out.cell (p := ⟨b6, o6 + k, none⟩) hb6).trans cL.out
      obtain ⟨z0, z1, z2, z3, z4⟩ := sD
      cases hu : isDn dn (e / 2) with
      | true =>
        rw [hu] at HDk
        have HQ : Hid ((L.take (k + 1)).filter P = (L.take k).filter P) := by
          show _ = _
          rw [HF.out, Hev.out, hu]; simp
        clear hu
        go_wp2_with fail
        go_big_quiet ((go_at_call 62; exact Calls.quiet_of_same ((HDk.out _ (HHw.out.drewN _)).mono fun e w' h => ⟨h.1, h.2.symm⟩)))
        go_wp2_with fail
        go_roundw
        case rel => exact ⟨k + 1, by omega, by go_num, by rw [HQ.out]; exact HOw.out, below_drewN HBw.out⟩
        case measure => simp [intOf]; omega
      | false =>
        rw [hu] at HDk
        cases hbn2 : isNextS dv db mm with
        | true =>
          rw [hbn2] at HN
          have HQ : Hid ((L.take (k + 1)).filter P = (L.take k).filter P ++ [(e : Int)]) := by
            show _ = _
            rw [HF.out, Hev.out, hu, hbn2]; rfl
          clear hu hbn2
          go_wp2_with fail
          go_region_held3 (fun w' => w'.cell? ⟨w.heap.size, 0, none⟩ = some (.int .i64 (nd : Int)) ∧ w'.cell? ⟨w.heap.size, 1, none⟩ = some (.slice A n c) ∧ w'.cell? ⟨b6, o6 + k, none⟩ = some (.int .i64 (e : Int)) ∧ w'.cell? ⟨bT, ot + v, none⟩ = some (.int .i64 dv) ∧ w'.cell? ⟨bT, ot + b, none⟩ = some (.int .i64 db))
            (first
              | go_keep
              | exact s9
              | exact s8)
            (first
              | (go_at_call 62; (with_reducible refine (HDk.out _ hhD).mono ?_); rintro _ _ ⟨rfl, rfl⟩)
              | (go_at_call 64; (with_reducible refine (HEk.out _ hhD).mono ?_); rintro e' w8 ⟨rfl, b8⟩; obtain ⟨a8, s8⟩ := HAll.out _ b8; have HA8 := hid a8; clear a8)
              | (go_at_call 65; (with_reducible refine (HMk.out _ HA8.out.1).mono ?_); rintro e' w9 ⟨rfl, b9⟩; obtain ⟨a9, s9⟩ := HAll.out _ (bt b8 b9); have HA9 := hid a9; clear a9)
              | (go_at_call 63; (with_reducible refine (HN.out _).mono ?_); rintro _ _ ⟨rfl, rfl⟩))
          obtain ⟨h9, hb59, ho9⟩ := HA9.out
          have HO9 := hid ho9
          clear ho9
          go_wp2_with (first
            | (at_builtin; refine wpList_append_own _ rfl (.tmp 51) (.tmp 53) 40 rfl w5.heap.size 3 i5 (.int .i64 0) 1 8 Try.underlying40 Ai.out Az0.out Az1.out Az2.out rfl (by decide) _ _ _ rfl (HO9.out.alloc _) ⟨w9.heap.size, 0, none⟩ 1 1 (icells [(e : Int)]) rfl rfl (new_row (int_row _)) (icells_one _) (by unfold maxLen; have := HFl.out; omega) (by have := HFl.out; omega) (by have := hb59.size; simp; omega) ?_; intro v10 w10 hown10 hg10 _; have HO10 := hid hown10; have hb10 : Below w5.heap.size w5 w10 := Below.grown (hb59.alloc hb59.size _) hg10 (by have := hb59.size; simp; omega) (fun q hq => (HO9.out.lt q hq).1)))
          go_roundw
          case rel => exact ⟨k + 1, by omega, by go_num, by rw [HQ.out, List.length_append, icells_app]; exact HO10.out, hb10⟩
          case measure => simp [intOf]; omega
        | false =>
          rw [hbn2] at HN
          have HQ : Hid ((L.take (k + 1)).filter P = (L.take k).filter P) := by
            show _ = _
            rw [HF.out, Hev.out, hu, hbn2]; simp
          clear hu hbn2
          go_wp2_with fail
          go_region_held3 (fun w' => w'.cell? ⟨w.heap.size, 0, none⟩ = some (.int .i64 (nd : Int)) ∧ w'.cell? ⟨w.heap.size, 1, none⟩ = some (.slice A n c) ∧ w'.cell? ⟨b6, o6 + k, none⟩ = some (.int .i64 (e : Int)) ∧ w'.cell? ⟨bT, ot + v, none⟩ = some (.int .i64 dv) ∧ w'.cell? ⟨bT, ot + b, none⟩ = some (.int .i64 db))
            (first
              | go_keep
              | exact s9
              | exact s8)
            (first
              | (go_at_call 62; (with_reducible refine (HDk.out _ hhD).mono ?_); rintro _ _ ⟨rfl, rfl⟩)
              | (go_at_call 64; (with_reducible refine (HEk.out _ hhD).mono ?_); rintro e' w8 ⟨rfl, b8⟩; obtain ⟨a8, s8⟩ := HAll.out _ b8; have HA8 := hid a8; clear a8)
              | (go_at_call 65; (with_reducible refine (HMk.out _ HA8.out.1).mono ?_); rintro e' w9 ⟨rfl, b9⟩; obtain ⟨a9, s9⟩ := HAll.out _ (bt b8 b9); have HA9 := hid a9; clear a9)
              | (go_at_call 63; (with_reducible refine (HN.out _).mono ?_); rintro _ _ ⟨rfl, rfl⟩))
          obtain ⟨h9, hb59, ho9⟩ := HA9.out
          have HO9 := hid ho9
          clear ho9
          go_wp2_with fail
          go_roundw
          case rel => exact ⟨k + 1, by omega, by go_num, by rw [HQ.out]; exact HO9.out, hb59⟩
          case measure => simp [intOf]; omega
    · obtain rfl : m = k := by omega
      have HQ : Hid ((L.take m).filter P = L.filter P) := by
        show _ = _
        rw [List.take_of_length_le (by rw [HM2.out]; omega)]
      have hb05 := h5.1
      go_wp2_with fail
      go_ret
      exact ⟨_, rfl, by rw [← HQ.out]; exact own_mono HOw.out hb05.size, hb05.trans (HBw.out.mono hb05.size)⟩
theorem next_spec : NextSpec 44 := by
  intro nd A n c l Ad n' c' dn At n2 c2 to s w hg hd ht hs1 hs2
  by_cases h : (checkS nd l).2 = 0 ∧ 0 ≤ s ∧ s < nd ∧ (n2 : Int) = nd
  · obtain ⟨N, rfl⟩ := Int.eq_ofNat_of_zero_le (show 0 ≤ nd by omega)
    obtain ⟨S, rfl⟩ := Int.eq_ofNat_of_zero_le h.2.1
    obtain rfl : n2 = N := by omega
    exact next_in n2 A n c l Ad n' c' dn At c2 to S w hg.row hd.row ht.row h.1 (by omega) ht.small
  · exact next_no nd A n c l Ad n' c' dn At n2 c2 to s w hg.row ht.row h
end Go.Proofs.Ytkemcgbedapkcaa
