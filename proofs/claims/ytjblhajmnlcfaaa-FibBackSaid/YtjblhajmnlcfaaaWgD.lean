/- What a call gets: a graph, links that are down, a row of numbers. -/
import Derived.Test.YtjblhajmnlcfaaaSpB
namespace Go.Proofs.Ytjblhajmnlcfaaa
open Go.RowKit
/-- A graph, links that are down, a row of numbers as a call gets them. -/
structure GArg (w : World) (nd : Int) (A : Option Addr) (n c : Nat) (l : List Lnk) : Prop where
  row : RLnk w w.heap.size A n l
  len : n ≤ 130
  cap : n ≤ c
  non : A = none → n = 0 ∧ c = 0
  lo : -9223372036854775808 ≤ nd
  hi : nd ≤ 9223372036854775807
structure DArg (w : World) (A : Option Addr) (n c : Nat) (dn : List Bool) : Prop where
  row : RBl w w.heap.size A n dn
  len : n ≤ 200
  cap : n ≤ c
  non : A = none → n = 0 ∧ c = 0
structure TArg (w : World) (A : Option Addr) (n c : Nat) (to : List Int) : Prop where
  row : RInt w w.heap.size A n to
  len : n ≤ 60
  cap : n ≤ c
  non : A = none → n = 0 ∧ c = 0
  small : ∀ x ∈ to, -1099511627776 ≤ x ∧ x ≤ 1099511627776
theorem GArg.on {w w' : World} {nd : Int} {A : Option Addr} {n c : Nat} {l : List Lnk} (h : GArg w nd A n c l) (hb : Below w.heap.size w w') : GArg w' nd A n c l := ⟨h.row.on hb, h.len, h.cap, h.non, h.lo, h.hi⟩
theorem DArg.on {w w' : World} {A : Option Addr} {n c : Nat} {l : List Bool} (h : DArg w A n c l) (hb : Below w.heap.size w w') : DArg w' A n c l := ⟨h.row.on hb, h.len, h.cap, h.non⟩
theorem TArg.on {w w' : World} {A : Option Addr} {n c : Nat} {l : List Int} (h : TArg w A n c l) (hb : Below w.heap.size w w') : TArg w' A n c l := ⟨h.row.on hb, h.len, h.cap, h.non, h.small⟩
theorem DArg.nil (w : World) : DArg w none 0 0 [] := ⟨⟨rfl, fun h => by omega⟩, by omega, by omega, fun _ => ⟨rfl, rfl⟩⟩
end Go.Proofs.Ytjblhajmnlcfaaa
