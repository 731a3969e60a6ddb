/- What lies behind an *Opt; what NewOpt answers. -/
import Derived.Test.YtabgbhkpeeibaaaOpE
import Derived.Deep.DeepCutAuto
namespace Go.Proofs.Ytabgbhkpeeibaaa
open Go.RowKit
set_option maxHeartbeats 6400000
set_option maxRecDepth 100000
/-- Each value reads as its point's row of lengths. -/
def FarR (w : World) (N : Nat) (nd : Int) (l : List Lnk) (gn : List Bool) (P : List Int) (vs : List Value) : Prop := ∀ (i : Nat) (v : Value), vs[i]? = some v → w.ownsRow 0 3 1 v N (icells (fromS nd l gn (P.getD i 0)))
theorem FarR.below {w w' : World} {N : Nat} {nd : Int} {l : List Lnk} {gn : List Bool} {P : List Int} {vs : List Value} (h : FarR w N nd l gn P vs) (hb : Below w.heap.size w w') : FarR w' N nd l gn P vs := fun i v hv => own_below (h i v hv) hb
theorem FarR.app {w : World} {N k : Nat} {nd : Int} {l : List Lnk} {gn : List Bool} {P : List Int} {vs : List Value} {v : Value} (h : FarR w N nd l gn P vs) (hk : vs.length = k) (hv : w.ownsRow 0 3 1 v N (icells (fromS nd l gn (P.getD k 0)))) : FarR w N nd l gn P (vs ++ [v]) := by
  intro i u hu
  rcases Nat.lt_or_ge i vs.length with hi | hi
  · rw [List.getElem?_append_left hi] at hu
    exact h i u hu
  · rw [List.getElem?_append_right hi] at hu
    have : i = vs.length := by
      have := (List.getElem?_eq_some_iff.1 hu).1
      simp at this; omega
    subst this
    simp at hu
    subst hu
    rw [hk]
    exact hv
theorem own_box {w : World} {base e size n B j : Nat} {v : Value} {xs : List Value} {t : TypeId} {c : Array Value} {fz : Nat × Nat} {u : Value} (hown : w.ownsRow base e size v n xs) (ho : w.heap[B]? = some (.cells c t fz)) (he : e ≠ t) : (w.setCell ⟨B, j, none⟩ u).ownsRow base e size v n xs := by
  have hgb : w.grownBy (w.setCell ⟨B, j, none⟩ u) (some B) := ⟨rfl, rfl, rfl, by simp [World.setCell], fun k _ hne => heap_setCell_other w ⟨B, j, none⟩ k u (fun e => hne (by rw [e]))⟩
  refine hown.kept hgb ?_
  rcases hown.2 with ⟨rfl, _⟩ | ⟨g, cap, cur, rfl, _, hg, _⟩
  · exact .inl rfl
  · refine .inr ?_
    simp only [Value.ownBlock, ne_eq, Option.some.injEq]
    rintro rfl
    rw [ho] at hg
    simp at hg
    exact he hg.2.1.symm
/-- What NewOpt holds while it fills. -/
structure NOs (wC : World) (nd : Int) (A : Option Addr) (n c : Nat) (l : List Lnk) (gn : List Bool) (P : List Int) (N m : Nat) (Ap : Option Addr) (cp : Nat) (Ag : Option Addr) (cg : Nat) (vF : Value) (k : Nat) (vs : List Value) (w' : World) : Prop where
  bel : Below wC.heap.size wC w'
  box : w'.heap[wC.heap.size]? = some (.cells #[.int .i64 nd, .slice A n c, .slice Ap m cp, .slice Ag n cg, vF] 72 (0, 0))
  own : w'.ownsRow (wC.heap.size + 1) 25 1 vF k vs
  far : FarR w' N nd l gn P vs
theorem NOs.lt {wC w' : World} {nd : Int} {A : Option Addr} {n c : Nat} {l : List Lnk} {gn : List Bool} {P : List Int} {N m : Nat} {Ap : Option Addr} {cp : Nat} {Ag : Option Addr} {cg : Nat} {vF : Value} {k : Nat} {vs : List Value} (h : NOs wC nd A n c l gn P N m Ap cp Ag cg vF k vs w') : wC.heap.size < w'.heap.size := blk_lt h.box
theorem NOs.next {wC w' w'' : World} {nd : Int} {A : Option Addr} {n c : Nat} {l : List Lnk} {gn : List Bool} {P : List Int} {N m : Nat} {Ap : Option Addr} {cp : Nat} {Ag : Option Addr} {cg : Nat} {vF : Value} {k : Nat} {vs : List Value} (h : NOs wC nd A n c l gn P N m Ap cp Ag cg vF k vs w') (hb : Below w'.heap.size w' w'') : NOs wC nd A n c l gn P N m Ap cp Ag cg vF k vs w'' :=
  ⟨h.bel.trans (hb.mono h.bel.size), box_below h.box hb h.lt, own_below h.own hb, h.far.below hb⟩
theorem box5_cells {w : World} {B : Nat} {x0 x1 x2 x3 x4 : Value} {T : TypeId} (h : w.heap[B]? = some (.cells #[x0, x1, x2, x3, x4] T (0, 0))) : w.cell? ⟨B, 0, none⟩ = some x0 ∧ w.cell? ⟨B, 1, none⟩ = some x1 ∧ w.cell? ⟨B, 2, none⟩ = some x2 ∧ w.cell? ⟨B, 3, none⟩ = some x3 ∧ w.cell? ⟨B, 4, none⟩ = some x4 ∧ ∀ j, w.frozen? ⟨B, j, none⟩ = false :=
  ⟨by rw [cell_of_row _ _ _ _ _ _ h]; rfl, by rw [cell_of_row _ _ _ _ _ _ h]; rfl, by rw [cell_of_row _ _ _ _ _ _ h]; rfl, by rw [cell_of_row _ _ _ _ _ _ h]; rfl, by rw [cell_of_row _ _ _ _ _ _ h]; rfl, fun j => frozen_of_row _ _ _ _ _ h⟩
theorem box5_set4 {w : World} {B : Nat} {x0 x1 x2 x3 x4 u : Value} {T : TypeId} (h : w.heap[B]? = some (.cells #[x0, x1, x2, x3, x4] T (0, 0))) : (w.setCell ⟨B, 4, none⟩ u).heap[B]? = some (.cells #[x0, x1, x2, x3, u] T (0, 0)) := heap_setCell_same w B 4 _ T u h
/-- One row more, and the box stored. -/
theorem NOs.put {wC w5 w6 : World} {nd : Int} {A : Option Addr} {n c : Nat} {l : List Lnk} {gn : List Bool} {P : List Int} {N m : Nat} {Ap : Option Addr} {cp : Nat} {Ag : Option Addr} {cg : Nat} {vF v5 : Value} {k : Nat} {vs : List Value} {o : Obj} {v6 : Value} (h : NOs wC nd A n c l gn P N m Ap cp Ag cg vF k vs w5) (hk : vs.length = k) (hv : w5.ownsRow 0 3 1 v5 N (icells (fromS nd l gn (P.getD k 0))))
    (h6 : w6.ownsRow (wC.heap.size + 1) 25 1 v6 (k + 1) (vs ++ [v5])) (hg : (w5.alloc o).grownBy w6 vF.ownBlock) : NOs wC nd A n c l gn P N m Ap cp Ag cg v6 (k + 1) (vs ++ [v5]) (w6.setCell ⟨wC.heap.size, 4, none⟩ v6) := by
  have hb6 := box_app h.box (by omega) h.own hg
  have ha : ∀ {b e s m : Nat} {v : Value} {xs : List Value}, w5.ownsRow b e s v m xs → e ≠ 25 → w6.ownsRow b e s v m xs := by
    intro b e s m v xs ho he
    have ho1 := ho.alloc (w := w5) o
    have ho2 := h.own.alloc (w := w5) o
    exact ho1.kept hg ((own_apart ho1 ho2 he).imp id id)
  refine ⟨(below_app h.bel (by omega) h.own hg).setCell (Nat.le_refl _) _, box5_set4 hb6, own_box h6 hb6 (by decide), ?_⟩
  have h7 : FarR w6 N nd l gn P (vs ++ [v5]) := FarR.app (fun i v hv => ha (h.far i v hv) (by decide)) hk (ha hv (by decide))
  exact fun i v hv => own_box (h7 i v hv) hb6 (by decide)
/-- What lies behind an *Opt. -/
def OptAt (nd : Int) (A : Option Addr) (n c : Nat) (l : List Lnk) (x : Wnt) (gn : List Bool) (B : Nat) (w : World) : Prop :=
  ∃ (Ap : Option Addr) (cp : Nat) (Ag : Option Addr) (cg : Nat) (vF : Value) (vs : List Value), w.heap[B]? = some (.cells #[.int .i64 nd, .slice A n c, .slice Ap (ptsS x).length cp, .slice Ag n cg, vF] 72 (0, 0)) ∧
    RInt w w.heap.size Ap (ptsS x).length (ptsS x) ∧ DArg w Ag n cg gn ∧ w.ownsRow 0 25 1 vF (ptsS x).length vs ∧ FarR w nd.toNat nd l gn (ptsS x) vs
theorem OptAt.on {nd : Int} {A : Option Addr} {n c : Nat} {l : List Lnk} {x : Wnt} {gn : List Bool} {B : Nat} {w w' : World} (h : OptAt nd A n c l x gn B w) (hb : Below w.heap.size w w') : OptAt nd A n c l x gn B w' := by
  obtain ⟨Ap, cp, Ag, cg, vF, vs, h1, h2, h3, h4, h5⟩ := h
  exact ⟨Ap, cp, Ag, cg, vF, vs, box_below h1 hb (blk_lt h1), h2.on hb, h3.on hb, own_below h4 hb, h5.below hb⟩
theorem nos_start {w wC : World} {nd : Int} {A : Option Addr} {n c : Nat} {l : List Lnk} {x : Wnt} {y : WSl} {gn : List Bool} {P : List Int} {N m : Nat} {Ap : Option Addr} {cp : Nat} {Ag : Option Addr} {cg : Nat} (hh : Held2 w nd A n c x y wC) (hr : RInt wC wC.heap.size Ap m P) (hc : m ≤ cp) (hd : DArg wC Ag n cg gn) :
    Hid (Held2 w nd A n c x y wC ∧ RInt wC wC.heap.size Ap m P ∧ m ≤ cp ∧ DArg wC Ag n cg gn ∧ NOs wC nd A n c l gn P N m Ap cp Ag cg (.slice none 0 0) 0 [] (wC.alloc (.cells #[.int .i64 nd, .slice A n c, .slice Ap m cp, .slice Ag n cg, .slice none 0 0] 72))) :=
  ⟨hh, hr, hc, hd, (Below.refl _ _).alloc (Nat.le_refl _) _, heap_alloc_new wC _, World.ownsRow_nil _ _ _ _, fun i v hv => by simp at hv⟩
/-- What NewOpt answers. -/
def NewOptSpec (f : Nat) : Prop := ∀ (nd : Int) (A : Option Addr) (n c : Nat) (l : List Lnk) (x : Wnt) (y : WSl) (Ad : Option Addr) (n' c' : Nat) (dn : List Bool) (w : World), GArg w nd A n c l → WArg w x y → DArg w Ad n' c' dn → y.nv ≤ 100 → y.nn ≤ 100 → y.nl ≤ 100 → y.nc ≤ 100 →
  Calls Try.prog f #[.agg #[.int .i64 nd, .slice A n c], .agg #[.int .i64 x.frm, .int .i64 x.too, .int .i64 x.bnd, .slice y.av y.nv y.cv, .slice y.an y.nn y.cn, .slice y.al y.nl y.cl, .slice y.ac y.nc y.cc], .slice Ad n' c'] w fun e w' => Below w.heap.size w w' ∧ (((costS nd l x dn).2 ≠ 0 ∧ e = .returned (.tuple #[.pointer none, .bool false])) ∨ ((costS nd l x dn).2 = 0 ∧ ∃ B, e = .returned (.tuple #[.pointer (some ⟨B, 0, none⟩), .bool true]) ∧ OptAt nd A n c l x (prunedS nd l x dn) B w'))
end Go.Proofs.Ytabgbhkpeeibaaa
