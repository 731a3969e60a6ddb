/- What the laws ask of Right and Down; Few, alive. -/
import Derived.Test.YtabgbhkpeeibaaaPrC
import Derived.Test.YtabgbhkpeeibaaaWgD
namespace Go.Proofs.Ytabgbhkpeeibaaa
open Go.RowKit
set_option maxHeartbeats 6400000
set_option maxRecDepth 100000
def RightSpec (f : Nat) : Prop := ∀ (nd : Int) (A : Option Addr) (n c : Nat) (l : List Lnk) (x : Wnt) (y : WSl) (w : World), GArg w nd A n c l → WArg w x y → y.nv ≤ 100 → y.nn ≤ 100 → y.nl ≤ 100 → y.nc ≤ 100 →
  Calls Try.prog f #[.agg #[.int .i64 nd, .slice A n c], .agg #[.int .i64 x.frm, .int .i64 x.too, .int .i64 x.bnd, .slice y.av y.nv y.cv, .slice y.an y.nn y.cn, .slice y.al y.nl y.cl, .slice y.ac y.nc y.cc]] w fun e w' => e = .returned (.int .i64 (rightS nd l x)) ∧ Below w.heap.size w w'
def DownSpec (f : Nat) : Prop := ∀ (nd : Int) (A : Option Addr) (n c : Nat) (l : List Lnk) (x : Wnt) (y : WSl) (Ad : Option Addr) (n' c' : Nat) (dn : List Bool) (w : World), GArg w nd A n c l → WArg w x y → DArg w Ad n' c' dn → y.nv ≤ 100 → y.nn ≤ 100 → y.nl ≤ 100 → y.nc ≤ 100 →
  Calls Try.prog f #[.agg #[.int .i64 nd, .slice A n c], .agg #[.int .i64 x.frm, .int .i64 x.too, .int .i64 x.bnd, .slice y.av y.nv y.cv, .slice y.an y.nn y.cn, .slice y.al y.nl y.cl, .slice y.ac y.nc y.cc], .slice Ad n' c'] w (BlAns (prunedS nd l x dn) w)
theorem refRight_spec : RightSpec 23 := fun nd A n c l x y w hg hw h1 h2 h3 h4 => right_any nd A n c l x y w hg.row hw (by omega) (by omega) (by omega) (by omega)
theorem refDown_spec : DownSpec 21 := fun nd A n c l x y Ad n' c' dn w hg hw hd h1 h2 h3 h4 => pruned_any nd A n c l x y Ad n' c' dn w hg.row hw hd.row (by have := hg.len; omega) (by omega) (by omega) (by omega) (by omega)
def fewB (y : WSl) : Bool := decide (y.nv ≤ 20) && decide (y.nn ≤ 60) && decide (y.nl ≤ 60) && decide (y.nc ≤ 60)
theorem few_any (x : Wnt) (y : WSl) (w : World) : Calls Try.prog 8 #[.agg #[.int .i64 x.frm, .int .i64 x.too, .int .i64 x.bnd, .slice y.av y.nv y.cv, .slice y.an y.nn y.cn, .slice y.al y.nl y.cl, .slice y.ac y.nc y.cc]] w fun e w' => e = .returned (.bool (fewB y)) ∧ Below w.heap.size w w' := by
  have b1 : Below w.heap.size w (w.alloc (.cells #[.int .i64 x.frm, .int .i64 x.too, .int .i64 x.bnd, .slice y.av y.nv y.cv, .slice y.an y.nn y.cn, .slice y.al y.nl y.cl, .slice y.ac y.nc y.cc] 27)) := Below.alloc (Below.refl _ _) (Nat.le_refl _) _
  have Q : fewB y = (decide (y.nv ≤ 20) && decide (y.nn ≤ 60) && decide (y.nl ≤ 60) && decide (y.nc ≤ 60)) := rfl
  rw [Q]
  by_cases h1 : y.nv ≤ 20
  · have t1 : decide ((y.nv : Int) ≤ 20) = true := by simp; omega
    by_cases h2 : y.nn ≤ 60
    · have t2 : decide ((y.nn : Int) ≤ 60) = true := by simp; omega
      by_cases h3 : y.nl ≤ 60
      · have t3 : decide ((y.nl : Int) ≤ 60) = true := by simp; omega
        by_cases h4 : y.nc ≤ 60
        · have t4 : decide ((y.nc : Int) ≤ 60) = true := by simp; omega
          rw [decide_eq_true h1, decide_eq_true h2, decide_eq_true h3, decide_eq_true h4]
          go_enter Try.func8, Try.ntmps8
          go_wp2_with fail
          go_ret
          exact ⟨by first | rfl | simp, b1⟩
        · have t4 : decide ((y.nc : Int) ≤ 60) = false := by simp; omega
          rw [decide_eq_true h1, decide_eq_true h2, decide_eq_true h3, decide_eq_false h4]
          go_enter Try.func8, Try.ntmps8
          go_wp2_with fail
          go_ret
          exact ⟨by first | rfl | simp, b1⟩
      · have t3 : decide ((y.nl : Int) ≤ 60) = false := by simp; omega
        rw [decide_eq_true h1, decide_eq_true h2, decide_eq_false h3]
        go_enter Try.func8, Try.ntmps8
        go_wp2_with fail
        go_ret
        exact ⟨by first | rfl | simp, b1⟩
    · have t2 : decide ((y.nn : Int) ≤ 60) = false := by simp; omega
      rw [decide_eq_true h1, decide_eq_false h2]
      go_enter Try.func8, Try.ntmps8
      go_wp2_with fail
      go_ret
      exact ⟨by first | rfl | simp, b1⟩
  · have t1 : decide ((y.nv : Int) ≤ 20) = false := by simp; omega
    rw [decide_eq_false h1]
    go_enter Try.func8, Try.ntmps8
    go_wp2_with fail
    go_ret
    exact ⟨by first | rfl | simp, b1⟩
theorem larg_nil (w : World) : LArg w none 0 0 [] := ⟨⟨rfl, fun h => by omega⟩, Nat.le_refl _, fun _ => ⟨rfl, rfl⟩, by unfold maxLen; omega, by simp⟩
/-- What a function that makes a row of bools gives. -/
theorem bls_out {f : Nat} {args : Array Value} {L : List Bool} {w : World} {m : Nat} (hL : L.length = m) (hc : Calls Try.prog f args w (BlAns L w)) :
    Calls Try.prog f args w fun e w' => ∃ A c, e = .returned (.slice A m c) ∧ (RBl w' w'.heap.size A m L ∧ m ≤ c ∧ (A = none → m = 0 ∧ c = 0)) ∧ Below w.heap.size w w' := by
  refine hc.mono ?_
  rintro e' w' ⟨A, c, rfl, h1, h2, h3, h4⟩
  rw [hL] at h1 h2 h3
  exact ⟨A, c, by rw [hL], ⟨h1, h2, h3⟩, h4⟩
theorem prunedS_len (nd : Int) (l : List Lnk) (x : Wnt) (dn : List Bool) : (prunedS nd l x dn).length ≤ l.length := by
  unfold prunedS; split <;> simp
end Go.Proofs.Ytabgbhkpeeibaaa
