/- Sums over ways, plainly: what is pushed on from node to node, the farthest first, comes to what is told ahead. -/
import Derived.Test.YtcjilpgblbnebaaDgE
import Derived.Test.YtcjilpgblbnebaaTbA
namespace Go.Proofs.Ytcjilpgblbnebaa
open Go.RowKit
set_option maxHeartbeats 3200000
set_option maxRecDepth 100000
/-- Sums and products as ways want them. -/
structure SR (K : Type) where
  add : K → K → K
  mul : K → K → K
  zero : K
  one : K
  ac : ∀ a b, add a b = add b a
  aa : ∀ a b c, add (add a b) c = add a (add b c)
  za : ∀ a, add zero a = a
  ma : ∀ a b c, mul (mul a b) c = mul a (mul b c)
  ld : ∀ a b c, mul a (add b c) = add (mul a b) (mul a c)
  rd : ∀ a b c, mul (add a b) c = add (mul a c) (mul b c)
  zm : ∀ a, mul zero a = zero
  mz : ∀ a, mul a zero = zero
  om : ∀ a, mul one a = a
  mo : ∀ a, mul a one = a
def SR.sum {K : Type} (R : SR K) (L : List K) : K := L.foldr R.add R.zero
/-- One step: what is at a is pushed on to b, over an edge of weight x. -/
def SR.push {K : Type} (R : SR K) (x : K) (a : Nat) (F : Nat → K) (b : Nat) : Nat → K := fun v => if v = b then R.add (F b) (R.mul (F a) x) else F v
/-- All steps of nodes, each with those ahead. -/
def SR.node {K : Type} (R : SR K) (x : K) (nx : Nat → List Nat) (F : Nat → K) (a : Nat) : Nat → K := (nx a).foldl (R.push x a) F
def SR.all {K : Type} (R : SR K) (x : K) (nx : Nat → List Nat) (F : Nat → K) (vs : List Nat) : Nat → K := vs.foldl (R.node x nx) F
/-- The sum over those nodes of L that are not done. -/
def SR.rest {K : Type} (R : SR K) (L : List Nat) (F B : Nat → K) : K := R.sum (L.map fun v => R.mul (F v) (B v))
theorem SR.az {K : Type} (R : SR K) (a : K) : R.add a R.zero = a := by rw [R.ac, R.za]
theorem SR.sum_app {K : Type} (R : SR K) (L M : List K) : R.sum (L ++ M) = R.add (R.sum L) (R.sum M) := by
  induction L with
  | nil => exact (R.za _).symm
  | cons x L ih => show R.add x (R.sum (L ++ M)) = R.add (R.add x (R.sum L)) (R.sum M); rw [ih, R.aa]
theorem SR.rest_off {K : Type} (R : SR K) (L : List Nat) (F G B : Nat → K) (h : ∀ v ∈ L, F v = G v) : R.rest L F B = R.rest L G B := by
  unfold SR.rest
  congr 1
  exact List.map_congr_left fun v hv => by rw [h v hv]
/-- One push into a node of L: the sum grows by that. -/
theorem SR.rest_push {K : Type} (R : SR K) {x : K} {a b : Nat} {F B : Nat → K} : ∀ {L : List Nat}, L.Nodup → b ∈ L → R.rest L (R.push x a F b) B = R.add (R.rest L F B) (R.mul (R.mul (F a) x) (B b)) := by
  intro L
  induction L with
  | nil => intro _ h; cases h
  | cons c L ih =>
    intro hn hb
    rw [List.nodup_cons] at hn
    show R.add (R.mul (R.push x a F b c) (B c)) (R.rest L (R.push x a F b) B) = R.add (R.add (R.mul (F c) (B c)) (R.rest L F B)) _
    by_cases hc : b = c
    · subst hc
      have h1 : R.rest L (R.push x a F b) B = R.rest L F B := R.rest_off L _ _ B fun v hv => by
        unfold SR.push
        rw [if_neg (fun e => hn.1 (by rw [← e]; exact hv))]
      rw [h1]
      have h2 : R.push x a F b b = R.add (F b) (R.mul (F a) x) := by unfold SR.push; rw [if_pos rfl]
      rw [h2, R.rd, R.aa, R.aa]
      congr 1
      exact R.ac _ _
    · have hb' : b ∈ L := by
        rcases List.mem_cons.1 hb with h | h
        · exact absurd h hc
        · exact h
      rw [ih hn.2 hb']
      have h2 : R.push x a F b c = F c := by unfold SR.push; rw [if_neg (fun e => hc e.symm)]
      rw [h2, R.aa]
theorem SR.push_off {K : Type} (R : SR K) {x : K} {a b v : Nat} {F : Nat → K} (h : v ≠ b) : R.push x a F b v = F v := by
  unfold SR.push
  rw [if_neg h]
/-- A node's steps: those of it alone turn what is at the nodes ahead. -/
theorem SR.fold_off {K : Type} (R : SR K) {x : K} {a v : Nat} : ∀ (M : List Nat) (F : Nat → K), v ∉ M → (M.foldl (R.push x a) F) v = F v := by
  intro M
  induction M with
  | nil => intro F _; rfl
  | cons b M ih =>
    intro F h
    simp only [List.mem_cons, not_or] at h
    show (M.foldl (R.push x a) (R.push x a F b)) v = F v
    rw [ih _ h.2, R.push_off h.1]
theorem SR.fold_rest {K : Type} (R : SR K) {x : K} {a : Nat} {B : Nat → K} {L : List Nat} (hn : L.Nodup) : ∀ (M : List Nat) (F : Nat → K), a ∉ M → (∀ b ∈ M, b ∈ L) → R.rest L (M.foldl (R.push x a) F) B = R.add (R.rest L F B) (R.mul (F a) (R.sum (M.map fun b => R.mul x (B b)))) := by
  intro M
  induction M with
  | nil => intro F _ _; show R.rest L F B = R.add _ (R.mul (F a) R.zero); rw [R.mz, R.az]
  | cons b M ih =>
    intro F ha hb
    simp only [List.mem_cons, not_or] at ha
    show R.rest L (M.foldl (R.push x a) (R.push x a F b)) B = R.add (R.rest L F B) (R.mul (F a) (R.add (R.mul x (B b)) (R.sum (M.map fun b => R.mul x (B b)))))
    rw [ih _ ha.2 (fun c hc => hb c (by simp [hc])), R.push_off ha.1, R.rest_push hn (hb b (by simp)), R.ld, ← R.ma, R.aa]
/-- What is at the end, when all nodes have been pushed on, the farthest first: what was ahead of the first one. -/
theorem SR.all_rest {K : Type} (R : SR K) {x : K} {nx : Nat → List Nat} {B : Nat → K} {T : Nat} (hT : nx T = []) : ∀ (vs L : List Nat) (F : Nat → K), L.Nodup → vs.Nodup → (∀ v ∈ vs, v ∈ L) → (∀ v ∈ vs, v ∉ nx v) → vs.Pairwise (fun u v => u ∉ nx v) → (∀ v ∈ vs, ∀ b ∈ nx v, b ∈ L) →
    (∀ v ∈ vs, v ≠ T → B v = R.sum ((nx v).map fun b => R.mul x (B b))) →
    R.rest (L.filter fun v => decide (v = T ∨ v ∉ vs)) (R.all x nx F vs) B = R.rest L F B := by
  intro vs
  induction vs with
  | nil =>
    intro L F _ _ _ _ _ _ _
    show R.rest _ F B = _
    congr 1
    exact List.filter_eq_self.2 fun v _ => by simp
  | cons u vs ih =>
    intro L F hn hv hL hs ho hx hB
    rw [List.nodup_cons] at hv
    rw [List.pairwise_cons] at ho
    show R.rest _ (R.all x nx (R.node x nx F u) vs) B = _
    by_cases hu : u = T
    · subst hu
      have h1 : R.node x nx F u = F := by unfold SR.node; rw [hT]; rfl
      rw [h1]
      have h2 : (L.filter fun v => decide (v = u ∨ v ∉ u :: vs)) = L.filter fun v => decide (v = u ∨ v ∉ vs) := by
        congr 1
        funext v
        by_cases h : v = u
        · simp [h]
        · simp [h]
      rw [h2]
      exact ih L F hn hv.2 (fun v h => hL v (by simp [h])) (fun v h => hs v (by simp [h])) ho.2 (fun v h => hx v (by simp [h])) (fun v h => hB v (by simp [h]))
    · have hm : ∀ v, v ∈ L.filter (fun v => decide (v ≠ u)) ↔ v ∈ L ∧ v ≠ u := fun v => by simp [List.mem_filter]
      have h2 : (L.filter fun v => decide (v = T ∨ v ∉ u :: vs)) = (L.filter (fun v => decide (v ≠ u))).filter fun v => decide (v = T ∨ v ∉ vs) := by
        rw [List.filter_filter]
        congr 1
        funext v
        by_cases h : v = u
        · subst h; simp [hu]
        · simp [h]
      rw [h2]
      rw [ih (L.filter (fun v => decide (v ≠ u))) (R.node x nx F u) (hn.filter _) hv.2 (fun v h => (hm v).2 ⟨hL v (by simp [h]), fun e => hv.1 (by rw [← e]; exact h)⟩) (fun v h => hs v (by simp [h])) ho.2
        (fun v h b hb => (hm b).2 ⟨hx v (by simp [h]) b hb, fun e => ho.1 v h (by rw [← e]; exact hb)⟩) (fun v h => hB v (by simp [h]))]
      unfold SR.node
      rw [R.fold_rest (hn.filter _) _ _ (hs u (by simp)) (fun b hb => (hm b).2 ⟨hx u (by simp) b hb, fun e => hs u (by simp) (by rw [e] at hb; exact hb)⟩), ← hB u (by simp) hu]
      -- the node itself
      have key : ∀ (M : List Nat), M.Nodup → u ∈ M → R.rest M F B = R.add (R.rest (M.filter (fun v => decide (v ≠ u))) F B) (R.mul (F u) (B u)) := by
        intro M
        induction M with
        | nil => intro _ h; cases h
        | cons c M ihM =>
          intro hnM hcM
          rw [List.nodup_cons] at hnM
          show R.add (R.mul (F c) (B c)) (R.rest M F B) = _
          by_cases hc : c = u
          · subst hc
            have h3 : (c :: M).filter (fun v => decide (v ≠ c)) = M := by
              rw [List.filter_cons_of_neg (by simp)]
              exact List.filter_eq_self.2 fun v hv => by
                simp only [decide_eq_true_eq]
                exact fun e => hnM.1 (by rw [← e]; exact hv)
            rw [h3, R.ac]
          · have h4 : u ∈ M := by
              rcases List.mem_cons.1 hcM with h | h
              · exact absurd h.symm hc
              · exact h
            rw [List.filter_cons_of_pos (by simp [hc]), ihM hnM.2 h4]
            exact (R.aa _ _ _).symm
      exact (key L hn (hL u (by simp))).symm
/-- A sum of none but one. -/
theorem SR.rest_one {K : Type} (R : SR K) {F B : Nat → K} {T : Nat} : ∀ {L : List Nat}, L.Nodup → T ∈ L → (∀ v ∈ L, v ≠ T → F v = R.zero) → R.rest L F B = R.mul (F T) (B T) := by
  intro L
  induction L with
  | nil => intro _ h; cases h
  | cons c L ih =>
    intro hn hT hz
    rw [List.nodup_cons] at hn
    show R.add (R.mul (F c) (B c)) (R.rest L F B) = _
    by_cases hc : c = T
    · subst hc
      have h1 : ∀ (M : List Nat), (∀ v ∈ M, F v = R.zero) → R.rest M F B = R.zero := by
        intro M
        induction M with
        | nil => intro _; rfl
        | cons d M ihM =>
          intro h
          show R.add (R.mul (F d) (B d)) (R.rest M F B) = _
          rw [h d (by simp), R.zm, R.za]
          exact ihM fun v hv => h v (by simp [hv])
      rw [h1 L fun v hv => hz v (by simp [hv]) (fun e => hn.1 (by rw [← e]; exact hv)), R.az]
    · have h4 : T ∈ L := by
        rcases List.mem_cons.1 hT with h | h
        · exact absurd h.symm hc
        · exact h
      rw [hz c (by simp) hc, R.zm, R.za]
      exact ih hn.2 h4 fun v hv => hz v (by simp [hv])
end Go.Proofs.Ytcjilpgblbnebaa
