/- Items as data: which items bytes are, which links items tell of; rows of items that the call owns. -/
import Derived.Test.YtddddfcalknmlaaTlQ
namespace Go.Proofs.Ytddddfcalknmlaa
open Go.RowKit

def num2 (a b : UInt8) : Nat := a.toNat * 256 + b.toNat
theorem num2_lt (a b : UInt8) : num2 a b < 65536 := by
  have := UInt8.toNat_lt a; have := UInt8.toNat_lt b
  unfold num2; omega
def getI (bs : List UInt8) : Option (List Itm) :=
  match bs with
  | [] => some []
  | t :: a :: b :: r => if r.length < num2 a b then none else (getI (r.drop (num2 a b))).map (fun l => ⟨t.toNat, r.take (num2 a b)⟩ :: l)
  | _ => none
termination_by bs.length
decreasing_by simp [List.length_drop]; omega
theorem getI_nil : getI [] = some [] := by rw [getI.eq_def]
theorem getI_short {bs : List UInt8} (h : 0 < bs.length) (h' : bs.length < 3) : getI bs = none := by
  match bs, h, h' with
  | [_], _, _ => rw [getI.eq_def]
  | [_, _], _, _ => rw [getI.eq_def]
theorem getI_cut {t a b : UInt8} {r : List UInt8} (h : r.length < num2 a b) : getI (t :: a :: b :: r) = none := by
  rw [getI.eq_def]
  simp only [h, if_true]
theorem getI_step {t a b : UInt8} {r : List UInt8} (h : ¬ r.length < num2 a b) : getI (t :: a :: b :: r) = (getI (r.drop (num2 a b))).map (fun l => ⟨t.toNat, r.take (num2 a b)⟩ :: l) := by
  rw [getI.eq_def]
  simp only [h, if_false]
def pre (d : List Itm) (o : Option (List Itm)) : Option (List Itm) := o.map (d ++ ·)
theorem pre_nil (o : Option (List Itm)) : pre [] o = o := by cases o <;> rfl
theorem pre_none (d : List Itm) : pre d none = none := rfl
theorem pre_end (d : List Itm) : pre d (some []) = some d := by simp [pre]
theorem pre_step (d : List Itm) (e : Itm) (o : Option (List Itm)) : pre d (o.map (fun l => e :: l)) = pre (d ++ [e]) o := by cases o <;> simp [pre]

/-- Links. -/
def isL (d : List UInt8) : Bool := d.length == 3 && decide ((d.getD 2 0).toNat ≤ 1)
def lk (d : List UInt8) : Int × Int := ((num2 (d.getD 0 0) (d.getD 1 0) : Nat), ((d.getD 2 0).toNat : Nat))
def linksOf : List Itm → Option (List (Int × Int))
  | [] => some []
  | e :: r => if e.typ = 1 then (if isL e.data = true then (linksOf r).map (lk e.data :: ·) else none) else linksOf r
def preL (d : List (Int × Int)) (o : Option (List (Int × Int))) : Option (List (Int × Int)) := o.map (d ++ ·)
theorem preL_nil (o : Option (List (Int × Int))) : preL [] o = o := by cases o <;> rfl
theorem preL_none (d : List (Int × Int)) : preL d none = none := rfl
theorem preL_end (d : List (Int × Int)) : preL d (some []) = some d := by simp [preL]
theorem preL_step (d : List (Int × Int)) (e : Int × Int) (o : Option (List (Int × Int))) : preL d (o.map (e :: ·)) = preL (d ++ [e]) o := by cases o <;> simp [preL]
theorem linksOf_drop {l : List Itm} {k : Nat} {e : Itm} (h : l[k]? = some e) : linksOf (l.drop k) = if e.typ = 1 then (if isL e.data = true then (linksOf (l.drop (k + 1))).map (lk e.data :: ·) else none) else linksOf (l.drop (k + 1)) := by
  obtain ⟨hk, rfl⟩ := List.getElem?_eq_some_iff.1 h
  rw [List.drop_eq_getElem_cons hk, linksOf]
def repI (bs : List UInt8) : Option (List (Int × Int)) := (getI bs).bind linksOf
def pcells (l : List (Int × Int)) : List Value := l.flatMap fun p => [.int .i64 p.1, .int .i64 p.2]
theorem pcells_app (a b : List (Int × Int)) : pcells (a ++ b) = pcells a ++ pcells b := List.flatMap_append
theorem pcells_len (l : List (Int × Int)) : (pcells l).length = l.length * 2 := by
  induction l with
  | nil => rfl
  | cons e r ih => simp only [pcells, List.flatMap_cons, List.length_append, List.length_cons] at *; rw [ih]; simp; omega
theorem pcells_one (l : List (Int × Int)) : ∀ u ∈ pcells l, u.oneCell' = true := by
  intro u hu
  simp only [pcells, List.mem_flatMap] at hu
  obtain ⟨e, _, hu⟩ := hu
  simp at hu
  rcases hu with rfl | rfl <;> rfl
theorem pcells_at {l : List (Int × Int)} {i : Nat} {e : Int × Int} (h : l[i]? = some e) : (pcells l)[i * 2]? = some (.int .i64 e.1) ∧ (pcells l)[i * 2 + 1]? = some (.int .i64 e.2) := by
  induction l generalizing i with
  | nil => simp at h
  | cons a r ih =>
    simp only [pcells, List.flatMap_cons]
    cases i with
    | zero => simp at h; subst h; simp
    | succ i =>
      have := ih (i := i) (by simpa using h)
      rw [List.getElem?_append_right (by simp; omega), List.getElem?_append_right (by simp; omega)]
      rw [show (i + 1) * 2 - [Value.int .i64 a.1, .int .i64 a.2].length = i * 2 by simp; omega, show (i + 1) * 2 + 1 - [Value.int .i64 a.1, .int .i64 a.2].length = i * 2 + 1 by simp; omega]
      exact this

/-- The cells of a row of items that the call made, the items' own rows with it. -/
def OItm (w : World) (base : Nat) (xs : List Value) (l : List Itm) : Prop :=
  ∀ (i : Nat) (e : Itm), l[i]? = some e → xs[i * 2]? = some (.int .i64 e.typ) ∧ ∃ D c, xs[i * 2 + 1]? = some (.slice D e.data.length c) ∧ w.ownsRow base 5 1 (.slice D e.data.length c) e.data.length (bcells e.data)
theorem OItm.nil (w : World) (base : Nat) : OItm w base [] [] := fun i e h => by simp at h
theorem OItm.snoc {w : World} {base : Nat} {xs : List Value} {l : List Itm} {e : Itm} {D : Option Addr} {c : Nat} (h : OItm w base xs l) (hx : xs.length = l.length * 2)
    (ho : w.ownsRow base 5 1 (.slice D e.data.length c) e.data.length (bcells e.data)) : OItm w base (xs ++ [.int .i64 e.typ, .slice D e.data.length c]) (l ++ [e]) := by
  intro i e' he
  rcases Nat.lt_or_ge i l.length with hi | hi
  · rw [List.getElem?_append_left hi] at he
    rw [List.getElem?_append_left (by omega), List.getElem?_append_left (by omega)]
    exact h i e' he
  · rw [List.getElem?_append_right hi] at he
    have h0 : i - l.length = 0 := by
      have := (List.getElem?_eq_some_iff.1 he).1
      simp at this; omega
    rw [h0] at he
    simp at he
    subst he
    rw [List.getElem?_append_right (by omega), List.getElem?_append_right (by omega), show i * 2 - xs.length = 0 by omega, show i * 2 + 1 - xs.length = 1 by omega]
    exact ⟨rfl, D, c, rfl, ho⟩
theorem own_apart {w : World} {b1 b2 e1 e2 s1 s2 n1 n2 : Nat} {v1 v2 : Value} {xs ys : List Value} (h1 : w.ownsRow b1 e1 s1 v1 n1 xs) (h2 : w.ownsRow b2 e2 s2 v2 n2 ys) (hne : e1 ≠ e2) : v1.ownBlock = none ∨ v1.ownBlock ≠ v2.ownBlock := by
  rcases h1.2 with ⟨rfl, _⟩ | ⟨g, cap, cur, rfl, _, hg, _⟩
  · exact .inl rfl
  · refine .inr ?_
    rcases h2.2 with ⟨rfl, _⟩ | ⟨g', cap', cur', rfl, _, hg', _⟩
    · simp [Value.ownBlock]
    · simp only [Value.ownBlock, ne_eq, Option.some.injEq]
      rintro rfl
      rw [hg] at hg'
      simp at hg'
      exact hne hg'.2
theorem OItm.kept {w w' : World} {base b2 s2 n2 : Nat} {e2 : TypeId} {xs ys : List Value} {l : List Itm} {v : Value} (h : OItm w base xs l) (hv : w.ownsRow b2 e2 s2 v n2 ys) (hne : 5 ≠ e2) (hg : w.grownBy w' v.ownBlock) : OItm w' base xs l := by
  intro i e he
  obtain ⟨h1, D, c, h2, h3⟩ := h i e he
  exact ⟨h1, D, c, h2, h3.kept hg (own_apart h3 hv hne)⟩
theorem OItm.below {w w' : World} {base : Nat} {xs : List Value} {l : List Itm} (h : OItm w base xs l) (hb : Below w.heap.size w w') : OItm w' base xs l := by
  intro i e he
  obtain ⟨h1, D, c, h2, h3⟩ := h i e he
  exact ⟨h1, D, c, h2, own_below h3 hb⟩
theorem own_set {w : World} {base : Nat} {e : TypeId} {size : Nat} {v : Value} {n : Nat} {xs : List Value} (h : w.ownsRow base e size v n xs) {a : Addr} (ha : a.block < base) (u : Value) : (w.setCell a u).ownsRow base e size v n xs := ownsRow_setCell_below h ha u
theorem OItm.set {w : World} {base : Nat} {xs : List Value} {l : List Itm} (h : OItm w base xs l) {a : Addr} (ha : a.block < base) (u : Value) : OItm (w.setCell a u) base xs l := by
  intro i e he
  obtain ⟨h1, D, c, h2, h3⟩ := h i e he
  exact ⟨h1, D, c, h2, ownsRow_setCell_below h3 ha u⟩
theorem own_mono {w : World} {base base' : Nat} {e : TypeId} {size : Nat} {v : Value} {n : Nat} {xs : List Value} (h : w.ownsRow base e size v n xs) (hb : base' ≤ base) : w.ownsRow base' e size v n xs := by
  refine ⟨h.1, ?_⟩
  rcases h.2 with h1 | ⟨g, cap, cur, h1, h2, h3⟩
  · exact .inl h1
  · exact .inr ⟨g, cap, cur, h1, by omega, h3⟩
theorem OItm.mono {w : World} {base base' : Nat} {xs : List Value} {l : List Itm} (h : OItm w base xs l) (hb : base' ≤ base) : OItm w base' xs l := by
  intro i e he
  obtain ⟨h1, D, c, h2, h3⟩ := h i e he
  exact ⟨h1, D, c, h2, own_mono h3 hb⟩
theorem own_slice {w : World} {base n c : Nat} {D : Option Addr} {l : List UInt8} (h : w.ownsRow base 5 1 (.slice D n c) n (bcells l)) : RByt w w.heap.size D n l ∧ (D = none → n = 0 ∧ c = 0) ∧ n ≤ c := by
  obtain ⟨A, cap, hv, hc, hr⟩ := own_byt_cap h
  simp only [Value.slice.injEq, true_and] at hv
  obtain ⟨rfl, rfl⟩ := hv
  refine ⟨hr, fun hD => ?_, hc⟩
  rcases h.2 with ⟨h1, h2⟩ | ⟨g, cap', cur, h1, _⟩
  · simp at h1; exact ⟨h1.2.1, h1.2.2⟩
  · rw [hD] at h1; simp at h1
theorem own_itm {w : World} {base : Nat} {v : Value} {xs : List Value} {l : List Itm} (h : w.ownsRow base 26 2 v l.length xs) (ho : OItm w base xs l) :
    ∃ A cap, v = .slice A l.length cap ∧ RItm w w.heap.size A l.length l ∧ (A = none → l.length = 0 ∧ cap = 0) := by
  rcases Nat.eq_zero_or_pos l.length with h0 | h0
  · rcases h.2 with ⟨rfl, h1⟩ | ⟨g, cap, cur, rfl, _⟩
    · exact ⟨none, 0, by rw [h0], ⟨rfl, fun h => by omega⟩, fun _ => ⟨h0, rfl⟩⟩
    · exact ⟨_, cap, rfl, ⟨rfl, fun h => by omega⟩, fun h => by cases h⟩
  · obtain ⟨g, cap, rfl, _, hlt⟩ := h.form h0
    refine ⟨_, cap, rfl, ⟨rfl, fun _ => ⟨g, 0, rfl, hlt, fun i e he => ?_⟩⟩, fun h => by cases h⟩
    obtain ⟨h1, D, c, h2, h3⟩ := ho i e he
    have k1 := h.cells (g := g) rfl _ _ h1
    have k2 := h.cells (g := g) rfl _ _ h2
    rw [Go.WideShapes.add_plain] at k1 k2
    obtain ⟨r1, r2, _⟩ := own_slice h3
    exact ⟨k1, D, c, by rw [Nat.add_assoc]; exact k2, r1, r2⟩
theorem RByt.drop {w : World} {B n k c : Nat} {A : Option Addr} {l : List UInt8} (h : RByt w B A n l) (hk : k ≤ n) (hc : n ≤ c) : RByt w B (if c = k then A else A.map (·.add k)) (n - k) (l.drop k) := by
  refine ⟨by rw [List.length_drop, h.1], fun hn => ?_⟩
  obtain ⟨b, off, h1, h2, h3⟩ := h.2 (by omega)
  rw [if_neg (by omega), h1]
  refine ⟨b, off + k, by simp [Go.WideShapes.add_plain], h2, fun i x hx => ?_⟩
  rw [List.getElem?_drop] at hx
  rw [Nat.add_assoc]
  exact h3 _ _ hx
theorem lensOk_at {l : List Itm} (h : lensOk l = true) {k : Nat} {e : Itm} (he : l[k]? = some e) : e.data.length ≤ 65535 := by
  induction l generalizing k with
  | nil => simp at he
  | cons a r ih =>
    simp only [lensOk, Bool.and_eq_true, decide_eq_true_eq] at h
    cases k with
    | zero => simp at he; subst he; exact h.1
    | succ k => exact ih h.2 (by simpa using he)
/-- What Get answers. -/
def GetIAns (bs : List UInt8) (w : World) (e : Ending) (w' : World) : Prop :=
  (∃ l, getI bs = some l ∧ ∃ v xs, e = .returned (.tuple #[v, .int .i64 0]) ∧ w'.ownsRow w.heap.size 26 2 v l.length xs ∧ OItm w' w.heap.size xs l ∧ Below w.heap.size w w') ∨
  (getI bs = none ∧ e = .returned (.tuple #[.slice none 0 0, .int .i64 2]) ∧ Below w.heap.size w w')
/-- What Links answers. -/
def RepAns (bs : List UInt8) (w : World) (e : Ending) (w' : World) : Prop :=
  (∃ m, repI bs = some m ∧ ∃ v, e = .returned (.tuple #[v, .int .i64 0]) ∧ w'.ownsRow w.heap.size 48 2 v m.length (pcells m) ∧ Below w.heap.size w w') ∨
  (repI bs = none ∧ e = .returned (.tuple #[.slice none 0 0, .int .i64 2]) ∧ Below w.heap.size w w')
theorem getI_len : ∀ (n : Nat) (bs : List UInt8) (l : List Itm), bs.length ≤ n → getI bs = some l → l.length * 3 ≤ bs.length ∧ ∀ e ∈ l, e.data.length ≤ bs.length ∧ 0 ≤ e.typ ∧ e.typ ≤ 255 := by
  intro n
  induction n with
  | zero =>
    intro bs l h hg
    obtain rfl : bs = [] := List.length_eq_zero_iff.1 (by omega)
    rw [getI_nil] at hg
    simp at hg; subst hg
    simp
  | succ n ih =>
    intro bs l h hg
    match bs with
    | [] => rw [getI_nil] at hg; simp at hg; subst hg; simp
    | [_] => rw [getI_short (by simp) (by simp)] at hg; simp at hg
    | [_, _] => rw [getI_short (by simp) (by simp)] at hg; simp at hg
    | t :: a :: b :: r =>
      by_cases hc : r.length < num2 a b
      · rw [getI_cut hc] at hg; simp at hg
      · rw [getI_step hc] at hg
        simp only [Option.map_eq_some_iff] at hg
        obtain ⟨l', h1, rfl⟩ := hg
        obtain ⟨h2, h3⟩ := ih _ _ (by simp at h ⊢; omega) h1
        refine ⟨by simp at h2 ⊢; omega, fun e he => ?_⟩
        rcases List.mem_cons.1 he with rfl | he
        · refine ⟨by simp; omega, by simp, ?_⟩
          have := UInt8.toNat_lt t
          simp; omega
        · have := h3 e he
          refine ⟨?_, this.2⟩
          have := this.1
          simp at this ⊢; omega
end Go.Proofs.Ytddddfcalknmlaa
