/- waymarkref1.Cut; what counts holds. -/
import Derived.Test.YtcjilpgblbnebaaDgA
import Derived.Test.YtcjilpgblbnebaaWgD
import Derived.Test.YtcjilpgblbnebaaSpE
namespace Go.Proofs.Ytcjilpgblbnebaa
open Go.RowKit
set_option maxHeartbeats 3200000
set_option maxRecDepth 100000
def capB : Nat := 1099511627776
theorem cut_any (n : Nat) (w : World) (h : n ≤ 1000000000000000) : Calls Try.prog 14 #[.int .i64 (n : Int), .int .i64 0, .int .i64 1099511627776] w fun e w' => e = .returned (.int .i64 ((min n capB : Nat) : Int)) ∧ w = w' := by
  have t1 : decide ((n : Int) < 0) = false := by simp
  by_cases h2 : capB < n
  · have t2 : decide ((1099511627776 : Int) < (n : Int)) = true := by simp; unfold capB at h2; omega
    rw [Nat.min_eq_right (by omega)]
    unfold capB
    clear h2 h
    go_enter Try.func14, Try.ntmps14
    go_wp2_with fail
    go_ret
    exact ⟨rfl, rfl⟩
  · have t2 : decide ((1099511627776 : Int) < (n : Int)) = false := by simp; unfold capB at h2; omega
    rw [Nat.min_eq_left (by omega)]
    clear h2 h
    go_enter Try.func14, Try.ntmps14
    go_wp2_with fail
    go_ret
    exact ⟨rfl, rfl⟩
/-- All blocks but three are as they were. -/
structure Kp (K F M : Nat) (w w' : World) : Prop where
  os : w'.os = w.os
  tape : w'.tape = w.tape
  output : w'.output = w.output
  size : w.heap.size ≤ w'.heap.size
  block : ∀ g, g < w.heap.size → g ≠ K → g ≠ F → g ≠ M → w'.heap[g]? = w.heap[g]?
theorem Kp.refl {K F M : Nat} (w : World) : Kp K F M w w := ⟨rfl, rfl, rfl, Nat.le_refl _, fun _ _ _ _ _ => rfl⟩
theorem Kp.trans {K F M : Nat} {a b c : World} (h : Kp K F M a b) (h' : Kp K F M b c) : Kp K F M a c :=
  ⟨h'.os.trans h.os, h'.tape.trans h.tape, h'.output.trans h.output, Nat.le_trans h.size h'.size, fun g hg h1 h2 h3 => (h'.block g (Nat.lt_of_lt_of_le hg h.size) h1 h2 h3).trans (h.block g hg h1 h2 h3)⟩
theorem Kp.of {K F M : Nat} {a b : World} (h : Below a.heap.size a b) : Kp K F M a b := ⟨h.os, h.tape, h.output, h.size, fun g hg _ _ _ => h.block g hg⟩
theorem Kp.set {K F M G j : Nat} {w : World} {u : Value} (hG : G = K ∨ G = F ∨ G = M) : Kp K F M w (w.setCell ⟨G, j, none⟩ u) :=
  ⟨rfl, rfl, rfl, by simp [World.setCell], fun g _ h1 h2 h3 => heap_setCell_other w ⟨G, j, none⟩ g u (by show g ≠ G; rintro rfl; rcases hG with h | h | h; exact h1 h; exact h2 h; exact h3 h)⟩
theorem Kp.below {K F M B : Nat} {w w' : World} (h : Kp K F M w w') (hK : B ≤ K) (hF : B ≤ F) (hM : B ≤ M) (hB : B ≤ w.heap.size) : Below B w w' :=
  ⟨h.os, h.tape, h.output, h.size, fun g hg => h.block g (by omega) (by omega) (by omega) (by omega)⟩
/-- What a call of counts gets. -/
structure CArg (B nd : Nat) (A : Option Addr) (n c : Nat) (l : List Lnk) (Ad : Option Addr) (n' c' : Nat) (dn : List Bool) (At : Option Addr) (c2 : Nat) (D : List Int) (K F M : Nat) (w : World) : Prop where
  lnk : RLnk w B A n l
  dn : RBl w B Ad n' dn
  to : RInt w B At nd D
  size : B ≤ w.heap.size
theorem CArg.kp {B nd : Nat} {A : Option Addr} {n c : Nat} {l : List Lnk} {Ad : Option Addr} {n' c' : Nat} {dn : List Bool} {At : Option Addr} {c2 : Nat} {D : List Int} {K F M : Nat} {w w' : World} (h : CArg B nd A n c l Ad n' c' dn At c2 D K F M w) (hk : Kp K F M w w') (hK : B ≤ K) (hF : B ≤ F) (hM : B ≤ M) : CArg B nd A n c l Ad n' c' dn At c2 D K F M w' :=
  have hb := hk.below hK hF hM h.size
  ⟨h.lnk.below hb, h.dn.below hb, h.to.below hb, Nat.le_trans h.size hk.size⟩
/-- A node is not done, or done. -/
def Good1 (nx : Nat → List Nat) (D k f m : List Int) (u : Nat) : Prop := (dAt k (u : Int) = -1 ∧ dAt f (u : Int) = 0 ∧ dAt m (u : Int) = 0) ∨ (0 ≤ dAt D (u : Int) ∧ dAt k (u : Int) = ((min (tr nx D u).1 capB : Nat) : Int) ∧ dAt f (u : Int) = ((tr nx D u).2.1 : Int) ∧ dAt m (u : Int) = ((tr nx D u).2.2 : Int))
def Good (nd : Nat) (nx : Nat → List Nat) (D k f m : List Int) (x : Int) : Prop := ∀ u : Nat, u < nd → dAt D (u : Int) ≤ x → Good1 nx D k f m u
/-- The three rows. -/
structure Rw3 (nd K F M : Nat) (k f m : List Int) (w : World) : Prop where
  rk : IRow w K k
  rf : IRow w F f
  rm : IRow w M m
  lk : k.length = nd
  lf : f.length = nd
  lm : m.length = nd
def CntAns (nd : Nat) (nx : Nat → List Nat) (D : List Int) (K F M : Nat) (k f m : List Int) (v : Nat) (w : World) (e : Ending) (w' : World) : Prop :=
  e = .returned (.tuple #[]) ∧ ∃ k' f' m', Rw3 nd K F M k' f' m' w' ∧ Good nd nx D k' f' m' (dAt D (v : Int)) ∧ 0 ≤ dAt k' (v : Int) ∧
    (∀ u : Nat, u < nd → dAt D (v : Int) < dAt D (u : Int) → dAt k' (u : Int) = dAt k (u : Int) ∧ dAt f' (u : Int) = dAt f (u : Int) ∧ dAt m' (u : Int) = dAt m (u : Int)) ∧ Kp K F M w w'
theorem Rw3.below {nd K F M : Nat} {k f m : List Int} {w w' : World} (h : Rw3 nd K F M k f m w) (hb : Below w.heap.size w w') : Rw3 nd K F M k f m w' := ⟨h.rk.on hb, h.rf.on hb, h.rm.on hb, h.lk, h.lf, h.lm⟩
theorem IRow.setO {w : World} {G G' j : Nat} {d : List Int} {u : Value} (h : IRow w G d) (hne : G ≠ G') : IRow (w.setCell ⟨G', j, none⟩ u) G d := (heap_setCell_other w ⟨G', j, none⟩ G u hne).trans h
theorem Rw3.setK {nd K F M v : Nat} {k f m : List Int} {w : World} (h : Rw3 nd K F M k f m w) (h1 : F ≠ K) (h2 : M ≠ K) (x : Int) : Rw3 nd K F M (k.set v x) f m (w.setCell ⟨K, v, none⟩ (.int .i64 x)) := ⟨h.rk.set x, h.rf.setO h1, h.rm.setO h2, by rw [List.length_set]; exact h.lk, h.lf, h.lm⟩
theorem Rw3.setF {nd K F M v : Nat} {k f m : List Int} {w : World} (h : Rw3 nd K F M k f m w) (h1 : K ≠ F) (h2 : M ≠ F) (x : Int) : Rw3 nd K F M k (f.set v x) m (w.setCell ⟨F, v, none⟩ (.int .i64 x)) := ⟨h.rk.setO h1, h.rf.set x, h.rm.setO h2, h.lk, by rw [List.length_set]; exact h.lf, h.lm⟩
theorem Rw3.setM {nd K F M v : Nat} {k f m : List Int} {w : World} (h : Rw3 nd K F M k f m w) (h1 : K ≠ M) (h2 : F ≠ M) (x : Int) : Rw3 nd K F M k f (m.set v x) (w.setCell ⟨M, v, none⟩ (.int .i64 x)) := ⟨h.rk.setO h1, h.rf.setO h2, h.rm.set x, h.lk, h.lf, by rw [List.length_set]; exact h.lm⟩
end Go.Proofs.Ytcjilpgblbnebaa
