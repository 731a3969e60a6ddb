/- Rules, plainly: what a text says. -/
import Derived.Test.YthoblabimkfjpaaWoB
import Derived.Test.YthoblabimkfjpaaPfB
import Derived.Test.YthoblabimkfjpaaPrA
namespace Go.Proofs.Ythoblabimkfjpaa
open Go.RowKit
set_option maxHeartbeats 3200000
set_option maxRecDepth 100000
/-- What a rule says. -/
structure Rul where
  name : List UInt8
  pri : Int
  m : Mat
  x : Wnt
  strict : Bool
/-- A token's kind and text. -/
abbrev Tk := Int × List UInt8
def era (t : Tok) : Tk := (t.kind, t.text)
def numT (t : Tk) : Option Nat := if t.1 = 2 ∧ 0 ≤ numS t.2 2147483647 then some (numS t.2 2147483647).toNat else none
def num1 : List Tk → Except (List Tk) (Nat × List Tk)
  | [] => .error []
  | t :: r => match numT t with
    | some v => .ok (v, r)
    | none => .error (t :: r)
def more : List Tk → Except (List Tk) (List Nat × List Tk)
  | [] => .ok ([], [])
  | t :: r => if t.1 = 2 then
      match numT t with
      | some v => (match more r with
        | .ok (vs, r') => .ok (v :: vs, r')
        | .error e => .error e)
      | none => .error (t :: r)
    else .ok ([], t :: r)
def nums1 (ts : List Tk) : Except (List Tk) (List Nat × List Tk) :=
  match num1 ts with
  | .ok (v, r) => (match more r with
    | .ok (vs, r') => .ok (v :: vs, r')
    | .error e => .error e)
  | .error e => .error e
def pref1 : List Tk → Except (List Tk) ((Nat × Nat) × List Tk)
  | [] => .error []
  | t :: r => if t.1 = 2 then
      match readS t.2 with
      | some p => .ok (p, r)
      | none => .error (t :: r)
    else .error (t :: r)
/-- A clause's word. -/
def wordL (i : Nat) : List UInt8 :=
  match i with
  | 0 => [118, 105, 97]
  | 1 => [97, 118, 111, 105, 100, 45, 110, 111, 100, 101, 115]
  | 2 => [97, 118, 111, 105, 100, 45, 108, 105, 110, 107, 115]
  | 3 => [97, 118, 111, 105, 100, 45, 99, 111, 108, 111, 117, 114, 115]
  | 4 => [99, 111, 115, 116]
  | 5 => [115, 114, 99]
  | 6 => [100, 115, 116]
  | 7 => [112, 114, 111, 116, 111]
  | 8 => [115, 112, 111, 114, 116]
  | 9 => [100, 112, 111, 114, 116]
  | 10 => [115, 116, 114, 105, 99, 116]
  | 11 => [102, 114, 111, 109]
  | 12 => [116, 111]
  | _ => []
def wordIx (w : List UInt8) : Nat := ((List.range 13).find? fun i => wordL i == w).getD 13
def withN (f : Rul → Nat → Rul) (r : Rul) (ts : List Tk) : Except (List Tk) (Rul × List Tk) := match num1 ts with
  | .ok (v, t) => .ok (f r v, t)
  | .error e => .error e
def withL (f : Rul → List Int → Rul) (r : Rul) (ts : List Tk) : Except (List Tk) (Rul × List Tk) := match nums1 ts with
  | .ok (v, t) => .ok (f r (v.map Int.ofNat), t)
  | .error e => .error e
def withP (f : Rul → Nat → Nat → Rul) (r : Rul) (ts : List Tk) : Except (List Tk) (Rul × List Tk) := match pref1 ts with
  | .ok (v, t) => .ok (f r v.1 v.2, t)
  | .error e => .error e
/-- A clause, behind its word. -/
def clauseI (i : Nat) (r : Rul) (ts : List Tk) : Except (List Tk) (Rul × List Tk) :=
  match i with
  | 0 => withL (fun r v => { r with x := { r.x with via := v } }) r ts
  | 1 => withL (fun r v => { r with x := { r.x with nds := v } }) r ts
  | 2 => withL (fun r v => { r with x := { r.x with lks := v } }) r ts
  | 3 => withL (fun r v => { r with x := { r.x with cls := v } }) r ts
  | 4 => withN (fun r v => { r with x := { r.x with bnd := (v : Int) } }) r ts
  | 5 => withP (fun r a n => { r with m := { r.m with sa := a, sl := (n : Int) } }) r ts
  | 6 => withP (fun r a n => { r with m := { r.m with da := a, dl := (n : Int) } }) r ts
  | 7 => withN (fun r v => { r with m := { r.m with pr := (v : Int) } }) r ts
  | 8 => withN (fun r v => { r with m := { r.m with sp := (v : Int) } }) r ts
  | 9 => withN (fun r v => { r with m := { r.m with dp := (v : Int) } }) r ts
  | 10 => .ok ({ r with strict := true }, ts)
  | 11 => withN (fun r v => { r with x := { r.x with frm := (v : Int) } }) r ts
  | _ => withN (fun r v => { r with x := { r.x with too := (v : Int) } }) r ts
def clausesP : Nat → List (List UInt8) → Rul → List Tk → Except (List Tk) (List (List UInt8) × Rul × List Tk)
  | 0, had, r, ts => .ok (had, r, ts)
  | _ + 1, had, r, [] => .ok (had, r, [])
  | f + 1, had, r, t :: ts => if t.1 = 1 then
      if t.2 ∈ had ∨ wordIx t.2 = 13 then .error (t :: ts)
      else match clauseI (wordIx t.2) r ts with
        | .ok (r', ts') => clausesP f (had ++ [t.2]) r' ts'
        | .error e => .error e
    else .ok (had, r, t :: ts)
def noMat : Mat := ⟨0, 0, 0, 0, 0, 0, 0⟩
def noWnt : Wnt := ⟨0, 0, 0, [], [], [], []⟩
def noRul : Rul := ⟨[], 0, noMat, noWnt, false⟩
/-- The end of a rule. -/
def shutR : List (List UInt8) × Rul × List Tk → Except (List Tk) (Rul × List Tk)
  | (_, _, []) => .error []
  | (had, r, t :: ts) => if t.1 = 3 ∧ wordL 11 ∈ had ∧ wordL 12 ∈ had then .ok (r, ts) else .error (t :: ts)
def ruleW : List UInt8 := [114, 117, 108, 101]
def clausesA (had : List (List UInt8)) (r : Rul) (ts : List Tk) : Except (List Tk) (List (List UInt8) × Rul × List Tk) := clausesP ts.length had r ts
def nameP : List Tk → Except (List Tk) (Rul × List Tk)
  | [] => .error []
  | t :: ts => if t.1 = 1 then
      match num1 ts with
      | .ok (v, ts') => (match clausesA [] { noRul with name := t.2, pri := (v : Int) } ts' with
        | .ok x => shutR x
        | .error e => .error e)
      | .error e => .error e
    else .error (t :: ts)
def ruleP : List Tk → Except (List Tk) (Rul × List Tk)
  | [] => .error []
  | t :: ts => if t.1 = 1 ∧ t.2 = ruleW then nameP ts else .error (t :: ts)
def rulesP : Nat → List Tk → Except (List Tk) (List (Nat × Rul))
  | 0, _ => .ok []
  | _ + 1, [] => .ok []
  | f + 1, t :: ts => match ruleP (t :: ts) with
    | .ok (r, ts') => (match rulesP f ts' with
      | .ok l => .ok (((t :: ts).length, r) :: l)
      | .error e => .error e)
    | .error e => .error e
def rulesA (ts : List Tk) : Except (List Tk) (List (Nat × Rul)) := rulesP ts.length ts
def posAt (s : List UInt8) (l : List Tok) (i : Nat) : Int := match l[i]? with
  | some t => t.pos
  | none => (s.length : Int)
/-- What Parse tells. -/
def parseS (s : List UInt8) : List Rul × Int × Int :=
  match splitS s with
  | (l, a, e) => if e = 0 then
      match rulesA (l.map era) with
      | .ok rs => (match rs[20]? with
        | some (k, _) => ([], posAt s l (l.length - k), 6)
        | none => (rs.map (·.2), -1, 0))
      | .error r => ([], posAt s l (l.length - r.length), 3)
    else ([], a, e)
/-- Nothing grows. -/
theorem num1_len {ts t : List Tk} {v : Nat} (h : num1 ts = .ok (v, t)) : t.length + 1 = ts.length := by
  cases ts with
  | nil => cases h
  | cons a r =>
    simp only [num1] at h
    split at h
    · cases h; rfl
    · cases h
theorem more_len : ∀ {ts t : List Tk} {v : List Nat}, more ts = .ok (v, t) → t.length ≤ ts.length := by
  intro ts
  induction ts with
  | nil => intro t v h; cases h; exact Nat.le_refl _
  | cons a r ih =>
    intro t v h
    unfold more at h
    split at h
    · split at h
      · split at h
        · rename_i h3
          cases h
          exact Nat.le_succ_of_le (ih h3)
        · cases h
      · cases h
    · cases h; exact Nat.le_refl _
theorem nums1_len {ts t : List Tk} {v : List Nat} (h : nums1 ts = .ok (v, t)) : t.length ≤ ts.length := by
  unfold nums1 at h
  split at h
  · rename_i h1
    split at h
    · rename_i h2
      cases h
      have := num1_len h1
      have := more_len h2
      omega
    · cases h
  · cases h
theorem pref1_len {ts t : List Tk} {v : Nat × Nat} (h : pref1 ts = .ok (v, t)) : t.length ≤ ts.length := by
  cases ts with
  | nil => cases h
  | cons a r =>
    simp only [pref1] at h
    split at h
    · split at h
      · cases h; simp
      · cases h
    · cases h
theorem clauseI_len {i : Nat} {r r' : Rul} {ts t : List Tk} (h : clauseI i r ts = .ok (r', t)) : t.length ≤ ts.length := by
  have hN : ∀ {f : Rul → Nat → Rul}, withN f r ts = .ok (r', t) → t.length ≤ ts.length := by
    intro f h
    unfold withN at h
    split at h
    · rename_i h1; cases h; have := num1_len h1; omega
    · cases h
  have hL : ∀ {f : Rul → List Int → Rul}, withL f r ts = .ok (r', t) → t.length ≤ ts.length := by
    intro f h
    unfold withL at h
    split at h
    · rename_i h1; cases h; exact nums1_len h1
    · cases h
  have hP : ∀ {f : Rul → Nat → Nat → Rul}, withP f r ts = .ok (r', t) → t.length ≤ ts.length := by
    intro f h
    unfold withP at h
    split at h
    · rename_i h1; cases h; exact pref1_len h1
    · cases h
  unfold clauseI at h
  split at h <;> first | exact hL h | exact hN h | exact hP h | (cases h; exact Nat.le_refl _)
theorem clausesP_same : ∀ (f g : Nat) (had : List (List UInt8)) (r : Rul) (ts : List Tk), ts.length ≤ f → ts.length ≤ g → clausesP f had r ts = clausesP g had r ts := by
  intro f
  induction f with
  | zero =>
    intro g had r ts h _
    obtain rfl : ts = [] := List.length_eq_zero_iff.1 (by omega)
    cases g <;> rfl
  | succ f ih =>
    intro g had r ts h1 h2
    cases ts with
    | nil => cases g <;> rfl
    | cons t ts =>
      cases g with
      | zero => simp at h2
      | succ g =>
        unfold clausesP
        split
        · split
          · rfl
          · split
            · rename_i h3
              have := clauseI_len h3
              simp only [List.length_cons] at h1 h2
              exact ih g _ _ _ (by omega) (by omega)
            · rfl
        · rfl
theorem clausesA_nil (had : List (List UInt8)) (r : Rul) : clausesA had r [] = .ok (had, r, []) := rfl
theorem clausesA_cons (had : List (List UInt8)) (r : Rul) (t : Tk) (ts : List Tk) : clausesA had r (t :: ts) = if t.1 = 1 then
      if t.2 ∈ had ∨ wordIx t.2 = 13 then .error (t :: ts)
      else match clauseI (wordIx t.2) r ts with
        | .ok (r', ts') => clausesA (had ++ [t.2]) r' ts'
        | .error e => .error e
    else .ok (had, r, t :: ts) := by
  show clausesP (ts.length + 1) had r (t :: ts) = _
  conv => lhs; unfold clausesP
  split
  · split
    · rfl
    · split
      · rename_i h3
        exact clausesP_same _ _ _ _ _ (clauseI_len h3) (Nat.le_refl _)
      · rfl
  · rfl
theorem clausesP_len : ∀ (f : Nat) {had had' : List (List UInt8)} {r r' : Rul} {ts t : List Tk}, clausesP f had r ts = .ok (had', r', t) → t.length ≤ ts.length := by
  intro f
  induction f with
  | zero => intro had had' r r' ts t h; cases h; exact Nat.le_refl _
  | succ f ih =>
    intro had had' r r' ts t h
    cases ts with
    | nil => cases h; exact Nat.le_refl _
    | cons a ts =>
      unfold clausesP at h
      split at h
      · split at h
        · cases h
        · split at h
          · rename_i h3
            have := clauseI_len h3
            have := ih h
            simp only [List.length_cons]
            omega
          · cases h
      · cases h; exact Nat.le_refl _
theorem ruleP_len {ts t : List Tk} {r : Rul} (h : ruleP ts = .ok (r, t)) : t.length < ts.length := by
  cases ts with
  | nil => cases h
  | cons a ts =>
    simp only [ruleP] at h
    split at h
    · cases ts with
      | nil => cases h
      | cons b ts =>
        simp only [nameP] at h
        split at h
        · split at h
          · rename_i h1
            have := num1_len h1
            split at h
            · rename_i x h2
              obtain ⟨had, r', t'⟩ := x
              have := clausesP_len _ h2
              cases t' with
              | nil => cases h
              | cons c t' =>
                simp only [shutR] at h
                split at h
                · cases h
                  simp only [List.length_cons] at *
                  omega
                · cases h
            · cases h
          · cases h
        · cases h
    · cases h
theorem rulesP_same : ∀ (f g : Nat) (ts : List Tk), ts.length ≤ f → ts.length ≤ g → rulesP f ts = rulesP g ts := by
  intro f
  induction f with
  | zero =>
    intro g ts h _
    obtain rfl : ts = [] := List.length_eq_zero_iff.1 (by omega)
    cases g <;> rfl
  | succ f ih =>
    intro g ts h1 h2
    cases ts with
    | nil => cases g <;> rfl
    | cons t ts =>
      cases g with
      | zero => simp at h2
      | succ g =>
        unfold rulesP
        split
        · rename_i h3
          have := ruleP_len h3
          simp only [List.length_cons] at h1 h2 this
          rw [ih g _ (by omega) (by omega)]
        · rfl
theorem rulesA_cons (t : Tk) (ts : List Tk) : rulesA (t :: ts) = match ruleP (t :: ts) with
    | .ok (r, ts') => (match rulesA ts' with
      | .ok l => .ok (((t :: ts).length, r) :: l)
      | .error e => .error e)
    | .error e => .error e := by
  show rulesP (ts.length + 1) (t :: ts) = _
  conv => lhs; unfold rulesP
  split
  · rename_i h3
    have := ruleP_len h3
    simp only [List.length_cons] at this
    rw [rulesP_same _ _ _ (show _ ≤ ts.length by omega) (Nat.le_refl _)]
    rfl
  · rfl
end Go.Proofs.Ythoblabimkfjpaa
