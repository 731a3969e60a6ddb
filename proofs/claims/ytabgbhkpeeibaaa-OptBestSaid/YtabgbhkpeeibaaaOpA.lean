/- Best walks: what points, come, Start, Goal, Cost, Step, Has tell. -/
import Derived.Test.YtabgbhkpeeibaaaPrD
import Derived.Test.YtabgbhkpeeibaaaSpM
namespace Go.Proofs.Ytabgbhkpeeibaaa
open Go.RowKit
set_option maxHeartbeats 6400000
set_option maxRecDepth 100000
/-- A want's points. -/
def ptsS (x : Wnt) : List Int := x.frm :: (x.via ++ [x.too])
/-- How many points of a row are v, one behind the other. -/
def runN (v : Int) : List Int → Nat
  | [] => 0
  | a :: l => if a = v then runN v l + 1 else 0
/-- A state with all points that are come to. -/
def comeS (p : List Int) (v k : Int) : Int × Int := (v, if 0 ≤ k then k + (runN v (p.drop (k.toNat + 1)) : Nat) else k)
def startS (x : Wnt) : Int × Int := comeS (ptsS x) x.frm 0
def goalS (x : Wnt) : Int × Int := (x.too, (x.via.length : Int) + 1)
/-- The sum over a row of points, from k on: none if one can't be come to. -/
noncomputable def legsS (nd : Int) (l : List Lnk) (gn : List Bool) (a : Int) : List Int → Option Int
  | [] => some 0
  | b :: r => if dAt (fromS nd l gn a) b < 0 then none else (legsS nd l gn b r).map fun s => dAt (fromS nd l gn a) b + s
noncomputable def costS (nd : Int) (l : List Lnk) (x : Wnt) (dn : List Bool) : Int × Int :=
  if rightS nd l x ≠ 0 then (0, rightS nd l x)
  else match legsS nd l (prunedS nd l x dn) x.frm (x.via ++ [x.too]) with
    | none => (0, 8)
    | some s => if 0 < x.bnd ∧ x.bnd < s then (0, 8) else (s, 0)
/-- Where an edge leads from a state. -/
noncomputable def stepO (nd : Int) (l : List Lnk) (x : Wnt) (gn : List Bool) (v k e : Int) : Option (Int × Int) :=
  if (endsS l e).2.2 = true ∧ (endsS l e).1 = v ∧ 0 ≤ k ∧ k < (ptsS x).length - 1 ∧ e ∈ nextS nd l gn (fromS nd l gn ((ptsS x).getD (k + 1).toNat 0)) v then some (comeS (ptsS x) (endsS l e).2.1 k) else none
noncomputable def stepS (nd : Int) (l : List Lnk) (x : Wnt) (dn : List Bool) (v k e : Int) : Option (Int × Int) :=
  if (costS nd l x dn).2 = 0 then stepO nd l x (prunedS nd l x dn) v k e else none
noncomputable def walkO (nd : Int) (l : List Lnk) (x : Wnt) (gn : List Bool) (s : Option (Int × Int)) (es : List Int) : Option (Int × Int) :=
  es.foldl (fun s e => s.bind fun p => stepO nd l x gn p.1 p.2 e) s
noncomputable def hasS (nd : Int) (l : List Lnk) (x : Wnt) (dn : List Bool) (es : List Int) : Bool :=
  (costS nd l x dn).2 == 0 && walkO nd l x (prunedS nd l x dn) (some (startS x)) es == some (goalS x)
theorem runN_le (v : Int) : ∀ p : List Int, runN v p ≤ p.length
  | [] => Nat.le_refl _
  | a :: p => by
    unfold runN
    split
    · have := runN_le v p; simp; omega
    · omega
theorem ptsS_len (x : Wnt) : (ptsS x).length = x.via.length + 2 := by unfold ptsS; simp
theorem runN_at {v : Int} : ∀ {p : List Int} {j : Nat}, j < runN v p → p[j]? = some v
  | [], j, h => by simp [runN] at h
  | a :: p, j, h => by
    unfold runN at h
    split at h
    · rename_i e
      cases j with
      | zero => simp [e]
      | succ j => simpa using runN_at (p := p) (j := j) (by omega)
    · omega
theorem runN_end {v : Int} : ∀ {p : List Int} {u : Int}, p[runN v p]? = some u → u ≠ v
  | [], u, h => by simp [runN] at h
  | a :: p, u, h => by
    unfold runN at h
    split at h
    · exact runN_end (p := p) (by simpa using h)
    · rename_i e
      simp at h
      exact h ▸ e
end Go.Proofs.Ytabgbhkpeeibaaa
