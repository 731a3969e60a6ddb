/- Words for layer 1: entries as data, slices that read as entries or as bytes. -/
import Derived.Below
import Derived.Laws.OwnMore
import Derived.Deep.AppendLies
import Derived.Deep.Draws
namespace Go.Proofs.Ytihbpggoieieoaa
open Go.RowKit

structure Ent where
  lab : Int
  cls : Int
  ttl : Int
  last : Bool
instance : Inhabited Ent := ⟨⟨0, 0, 0, false⟩⟩
instance : DecidableEq Ent := fun a b => decidable_of_iff (a.lab = b.lab ∧ a.cls = b.cls ∧ a.ttl = b.ttl ∧ a.last = b.last) (by cases a; cases b; simp)

def Ent.fits (e : Ent) : Bool := decide (0 ≤ e.lab ∧ e.lab < 1048576 ∧ 0 ≤ e.cls ∧ e.cls < 8 ∧ 0 ≤ e.ttl ∧ e.ttl < 256)
def okAll : List Ent → Bool
  | [] => true
  | e :: r => e.fits && (e.last == r.isEmpty) && okAll r
def isStk (l : List Ent) : Bool := decide (1 ≤ l.length ∧ l.length ≤ 1000) && okAll l

/-- A slice value with address A and length n reads as the entries l below block B. -/
def REnt (w : World) (B : Nat) (A : Option Addr) (n : Nat) (l : List Ent) : Prop :=
  l.length = n ∧ (0 < n → ∃ b off, A = some ⟨b, off, none⟩ ∧ b < B ∧ ∀ (i : Nat) (e : Ent), l[i]? = some e →
    w.cell? ⟨b, off + i * 4, none⟩ = some (.int .i64 e.lab) ∧ w.cell? ⟨b, off + i * 4 + 1, none⟩ = some (.int .i64 e.cls) ∧
    w.cell? ⟨b, off + i * 4 + 2, none⟩ = some (.int .i64 e.ttl) ∧ w.cell? ⟨b, off + i * 4 + 3, none⟩ = some (.bool e.last))

theorem REnt.below {w w' : World} {B n : Nat} {A : Option Addr} {l : List Ent} (h : REnt w B A n l) (hb : Below B w w') : REnt w' B A n l := by
  refine ⟨h.1, fun hn => ?_⟩
  obtain ⟨b, off, hA, hB, hc⟩ := h.2 hn
  refine ⟨b, off, hA, hB, fun i e he => ?_⟩
  obtain ⟨h1, h2, h3, h4⟩ := hc i e he
  exact ⟨(hb.cell (p := ⟨b, _, none⟩) hB).trans h1, (hb.cell (p := ⟨b, _, none⟩) hB).trans h2, (hb.cell (p := ⟨b, _, none⟩) hB).trans h3, (hb.cell (p := ⟨b, _, none⟩) hB).trans h4⟩
theorem REnt.more {w : World} {B B' n : Nat} {A : Option Addr} {l : List Ent} (h : REnt w B A n l) (hB : B ≤ B') : REnt w B' A n l := by
  refine ⟨h.1, fun hn => ?_⟩
  obtain ⟨b, off, hA, hb, hc⟩ := h.2 hn
  exact ⟨b, off, hA, by omega, hc⟩

/-! bytes -/
def byt (x : Int) : UInt8 := UInt8.ofNat (x % 256).toNat
theorem byt_val (x : Int) : ((byt x).toNat : Int) = x % 256 := by
  unfold byt
  rw [UInt8.toNat_ofNat']
  omega
def bcells (l : List UInt8) : List Value := l.map fun b => .int .u8 (b.toNat : Int)
theorem bcells_app (a b : List UInt8) : bcells (a ++ b) = bcells a ++ bcells b := List.map_append
theorem bcells_len (a : List UInt8) : (bcells a).length = a.length := List.length_map _
def Ent.word (e : Ent) : Int := e.lab * 4096 + e.cls * 512 + (if e.last then 256 else 0) + e.ttl
def Ent.bytes (e : Ent) : List UInt8 := [byt (e.word / 16777216), byt (e.word / 65536), byt (e.word / 256), byt e.word]
def putB (l : List Ent) : List UInt8 := l.flatMap Ent.bytes
theorem putB_len (l : List Ent) : (putB l).length = 4 * l.length := by
  induction l with
  | nil => rfl
  | cons e r ih => simp only [putB, List.flatMap_cons, List.length_append, List.length_cons] at *; rw [ih]; simp [Ent.bytes]; omega
theorem putB_take {l : List Ent} {k : Nat} {e : Ent} (h : l[k]? = some e) : putB (l.take (k + 1)) = putB (l.take k) ++ e.bytes := by
  rw [List.take_add_one, h]
  simp [putB]

/-- A slice value reads as the bytes bs below block B. -/
def RByt (w : World) (B : Nat) (A : Option Addr) (n : Nat) (bs : List UInt8) : Prop :=
  bs.length = n ∧ (0 < n → ∃ b off, A = some ⟨b, off, none⟩ ∧ b < B ∧ ∀ (i : Nat) (x : UInt8), bs[i]? = some x → w.cell? ⟨b, off + i, none⟩ = some (.int .u8 (x.toNat : Int)))
theorem RByt.below {w w' : World} {B n : Nat} {A : Option Addr} {l : List UInt8} (h : RByt w B A n l) (hb : Below B w w') : RByt w' B A n l := by
  refine ⟨h.1, fun hn => ?_⟩
  obtain ⟨b, off, hA, hB, hc⟩ := h.2 hn
  exact ⟨b, off, hA, hB, fun i e he => (hb.cell (p := ⟨b, _, none⟩) hB).trans (hc i e he)⟩
theorem RByt.more {w : World} {B B' n : Nat} {A : Option Addr} {l : List UInt8} (h : RByt w B A n l) (hB : B ≤ B') : RByt w B' A n l := by
  refine ⟨h.1, fun hn => ?_⟩
  obtain ⟨b, off, hA, hb, hc⟩ := h.2 hn
  exact ⟨b, off, hA, by omega, hc⟩

/-! what is owned -/
theorem grown_of_below {a w : World} (h : Below a.heap.size a w) (row : Option Nat) : a.grownBy w row := ⟨h.os, h.tape, h.output, h.size, fun i hi _ => h.block i hi⟩
theorem own_below {w w' : World} {base : Nat} {e : TypeId} {size : Nat} {v : Value} {n : Nat} {xs : List Value} (h : w.ownsRow base e size v n xs) (hb : Below w.heap.size w w') : w'.ownsRow base e size v n xs := by
  refine h.kept (grown_of_below hb none) ?_
  cases hv : v.ownBlock with
  | none => exact .inl rfl
  | some k => exact .inr (by simp)

theorem hid {p : Prop} (h : p) : Hid p := h
theorem ret_bool {a b : Bool} (h : a = b) : Ending.returned (.bool a) = Ending.returned (.bool b) := by rw [h]
theorem ret_int {k : IntKind} {a b : Int} (h : a = b) : Ending.returned (.int k a) = Ending.returned (.int k b) := by rw [h]
end Go.Proofs.Ytihbpggoieieoaa
