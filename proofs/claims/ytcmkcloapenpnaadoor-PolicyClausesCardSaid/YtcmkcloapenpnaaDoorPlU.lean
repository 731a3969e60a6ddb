/- The rule of some clauses as Show writes it. -/
import Derived.Test.YtcmkcloapenpnaaDoorPlT
namespace Go.Proofs.YtcmkcloapenpnaaDoor
open Go.RowKit
set_option maxHeartbeats 6400000
set_option maxRecDepth 100000
/-- The rule that has the clauses of b, and from and to. -/
def rulB (b : Nat → Bool) : Rul :=
  { name := [120], pri := 5,
    m := { sa := if b 5 then 16777216 else 0, sl := if b 5 then 8 else 0, da := if b 6 then 33554432 else 0, dl := if b 6 then 7 else 0, pr := if b 7 then 6 else 0, sp := if b 8 then 9 else 0, dp := if b 9 then 10 else 0 },
    x := { frm := 0, too := 1, bnd := if b 4 then 8 else 0, via := if b 0 then [2, 3] else [], nds := if b 1 then [4] else [], lks := if b 2 then [5, 6] else [], cls := if b 3 then [7] else [] },
    strict := b 10 }
/-- The clauses in the document's order. -/
def ksB (b : Nat → Bool) : List Nat := [11, 12] ++ (List.range 11).filter b
theorem fold_filter (b : Nat → Bool) : ∀ (L : List Nat) (r : Rul), (L.filter b).foldl (fun r k => (cK k).f r) r = L.foldl (fun r k => if b k then (cK k).f r else r) r := by
  intro L
  induction L with
  | nil => intro r; rfl
  | cons k L ih =>
    intro r
    cases h : b k with
    | true => rw [List.filter_cons_of_pos h, List.foldl_cons, List.foldl_cons, ih, h, if_pos rfl]
    | false => rw [List.filter_cons_of_neg (by rw [h]; decide), List.foldl_cons, ih, h]; rfl
theorem fold_std (b : Nat → Bool) : (ksB b).foldl (fun r k => (cK k).f r) baseX = rulB b := by
  unfold ksB
  rw [List.foldl_append, fold_filter]
  show (fun r k => if b k then (cK k).f r else r) ((fun r k => if b k then (cK k).f r else r) ((fun r k => if b k then (cK k).f r else r) ((fun r k => if b k then (cK k).f r else r) ((fun r k => if b k then (cK k).f r else r) ((fun r k => if b k then (cK k).f r else r) ((fun r k => if b k then (cK k).f r else r) ((fun r k => if b k then (cK k).f r else r) ((fun r k => if b k then (cK k).f r else r) ((fun r k => if b k then (cK k).f r else r) ((fun r k => if b k then (cK k).f r else r) ((cK 12).f ((cK 11).f baseX)) 0) 1) 2) 3) 4) 5) 6) 7) 8) 9) 10 = _
  have s0 : ∀ r : Rul, (if b 0 then (cK 0).f r else r) = { r with x := { r.x with via := if b 0 then [2, 3] else r.x.via } } := fun r => by cases b 0 <;> rfl
  have s1 : ∀ r : Rul, (if b 1 then (cK 1).f r else r) = { r with x := { r.x with nds := if b 1 then [4] else r.x.nds } } := fun r => by cases b 1 <;> rfl
  have s2 : ∀ r : Rul, (if b 2 then (cK 2).f r else r) = { r with x := { r.x with lks := if b 2 then [5, 6] else r.x.lks } } := fun r => by cases b 2 <;> rfl
  have s3 : ∀ r : Rul, (if b 3 then (cK 3).f r else r) = { r with x := { r.x with cls := if b 3 then [7] else r.x.cls } } := fun r => by cases b 3 <;> rfl
  have s4 : ∀ r : Rul, (if b 4 then (cK 4).f r else r) = { r with x := { r.x with bnd := if b 4 then 8 else r.x.bnd } } := fun r => by cases b 4 <;> rfl
  have s5 : ∀ r : Rul, (if b 5 then (cK 5).f r else r) = { r with m := { r.m with sa := if b 5 then 16777216 else r.m.sa, sl := if b 5 then 8 else r.m.sl } } := fun r => by cases b 5 <;> rfl
  have s6 : ∀ r : Rul, (if b 6 then (cK 6).f r else r) = { r with m := { r.m with da := if b 6 then 33554432 else r.m.da, dl := if b 6 then 7 else r.m.dl } } := fun r => by cases b 6 <;> rfl
  have s7 : ∀ r : Rul, (if b 7 then (cK 7).f r else r) = { r with m := { r.m with pr := if b 7 then 6 else r.m.pr } } := fun r => by cases b 7 <;> rfl
  have s8 : ∀ r : Rul, (if b 8 then (cK 8).f r else r) = { r with m := { r.m with sp := if b 8 then 9 else r.m.sp } } := fun r => by cases b 8 <;> rfl
  have s9 : ∀ r : Rul, (if b 9 then (cK 9).f r else r) = { r with m := { r.m with dp := if b 9 then 10 else r.m.dp } } := fun r => by cases b 9 <;> rfl
  have s10 : ∀ r : Rul, (if b 10 then (cK 10).f r else r) = { r with strict := if b 10 then true else r.strict } := fun r => by cases b 10 <;> rfl
  simp only [s0, s1, s2, s3, s4, s5, s6, s7, s8, s9, s10]
  unfold rulB
  have e : (if b 10 then true else ((cK 12).f ((cK 11).f baseX)).strict) = b 10 := by cases b 10 <;> rfl
  rw [e]
  rfl
theorem flat_filter (b : Nat → Bool) (g : Nat → List UInt8) : ∀ (L : List Nat), (L.filter b).flatMap g = L.flatMap fun k => if b k then g k else [] := by
  intro L
  induction L with
  | nil => rfl
  | cons k L ih =>
    cases h : b k with
    | true => rw [List.filter_cons_of_pos h, List.flatMap_cons, List.flatMap_cons, ih, h, if_pos rfl]
    | false => rw [List.filter_cons_of_neg (by rw [h]; decide), List.flatMap_cons, ih, h]; rfl
theorem pos_if (c : Bool) (n : Int) (h : 0 < n) : decide (0 < (if c then n else 0)) = c := by
  cases c with
  | false => rfl
  | true => exact decide_eq_true h
/-- As Show writes it. -/
theorem show_std (b : Nat → Bool) : showR (rulB b) = hdX ++ (ksB b).flatMap txK ++ [59, 10] := by
  rw [show_line]
  unfold lineL
  have e0 : ∀ ts : List Tk, ts.flatMap (fun t => 32 :: t.2) = spell ts := fun _ => rfl
  rw [e0]
  have h1 : spell ((chks (rulB b)).flatMap Chk.toks) = (ksB b).flatMap txK := by
    unfold ksB
    rw [List.flatMap_append, flat_filter]
    unfold chks
    simp only [List.flatMap_append, spell_app]
    have p : ∀ (c : Bool) (x : Chk) (d : Bool) (k : Nat), c = d → (d = true → x = cK k) → spell ((opt c x).flatMap Chk.toks) = if d then txK k else [] := by
      intro c x d k hc hx
      subst hc
      cases c with
      | false => rfl
      | true => rw [hx rfl]; show spell ([cK k].flatMap Chk.toks) = _; rw [List.flatMap_cons, List.flatMap_nil, List.append_nil]; rfl
    rw [p _ _ (b 0) 0 (by simp only [rulB]; cases b 0 <;> rfl) (fun h => by simp only [rulB, h]; rfl),
      p _ _ (b 1) 1 (by simp only [rulB]; cases b 1 <;> rfl) (fun h => by simp only [rulB, h]; rfl),
      p _ _ (b 2) 2 (by simp only [rulB]; cases b 2 <;> rfl) (fun h => by simp only [rulB, h]; rfl),
      p _ _ (b 3) 3 (by simp only [rulB]; cases b 3 <;> rfl) (fun h => by simp only [rulB, h]; rfl),
      p _ _ (b 4) 4 (by simp only [rulB]; exact pos_if _ _ (by decide)) (fun h => by simp only [rulB, h]; rfl),
      p _ _ (b 5) 5 (by simp only [rulB]; exact pos_if _ _ (by decide)) (fun h => by simp only [rulB, h]; rfl),
      p _ _ (b 6) 6 (by simp only [rulB]; exact pos_if _ _ (by decide)) (fun h => by simp only [rulB, h]; rfl),
      p _ _ (b 7) 7 (by simp only [rulB]; exact pos_if _ _ (by decide)) (fun h => by simp only [rulB, h]; rfl),
      p _ _ (b 8) 8 (by simp only [rulB]; exact pos_if _ _ (by decide)) (fun h => by simp only [rulB, h]; rfl),
      p _ _ (b 9) 9 (by simp only [rulB]; exact pos_if _ _ (by decide)) (fun h => by simp only [rulB, h]; rfl),
      p _ _ (b 10) 10 (by simp only [rulB]) (fun _ => by rfl)]
    have hr : List.range 11 = [0, 1, 2, 3, 4, 5, 6, 7, 8, 9, 10] := rfl
    rw [hr]
    simp only [List.flatMap_cons, List.flatMap_nil, List.append_nil, List.append_assoc]
    rfl
  have h2 : spell (restR (rulB b)) = spell tkX ++ (ksB b).flatMap txK := by
    rw [← h1]
    rfl
  rw [h2, hdX_eq]
  simp only [List.append_assoc]
end Go.Proofs.YtcmkcloapenpnaaDoor
