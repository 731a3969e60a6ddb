/- Merged: CsA CsB0 CsB CsC CsD. -/
import Derived.Test.YtkemcgbedapkcaaG10
import Derived.Test.YtkemcgbedapkcaaG06
import Derived.Test.YtkemcgbedapkcaaG13
import Derived.Test.YtkemcgbedapkcaaG31
/- Lists of small graphs, computed. -/
namespace Go.Proofs.Ytkemcgbedapkcaa
open Go.RowKit
set_option maxHeartbeats 6400000
set_option maxRecDepth 100000
def relaxC (l : List Lnk) (dn : List Bool) (d : List Int) : List Int :=
  (List.range (2 * l.length)).foldl (fun d k => if (!isDn dn (k / 2) && decide (0 ≤ dAt d (frm l k)) && (decide (dAt d (tov l k) < 0) || decide (dAt d (frm l k) + met l k < dAt d (tov l k)))) = true then d.set (tov l k).toNat (dAt d (frm l k) + met l k) else d) d
def timesC (l : List Lnk) (dn : List Bool) : Nat → List Int → List Int
  | 0, d => d
  | n + 1, d => timesC l dn n (relaxC l dn d)
/-- The row of distances, computed. -/
def distC (nd : Nat) (l : List Lnk) (dn : List Bool) (s : Nat) : List Int := timesC l dn nd ((List.replicate nd (-1)).set s 0)
def okC (nd : Nat) (l : List Lnk) (dn : List Bool) (s : Nat) (d : List Int) : Bool :=
  decide (d.length = nd) && decide (dAt d (s : Int) = 0) && (List.range nd).all (fun v => decide (-1 ≤ dAt d (v : Int))) &&
  (List.range (2 * l.length)).all (fun k => isDn dn (k / 2) || decide (dAt d (frm l k) < 0) || (decide (0 ≤ dAt d (tov l k)) && decide (dAt d (tov l k) ≤ dAt d (frm l k) + met l k))) &&
  (List.range nd).all (fun v => decide (v = s) || decide (dAt d (v : Int) < 0) || (List.range (2 * l.length)).any (fun k => !isDn dn (k / 2) && decide (tov l k = (v : Int)) && decide (0 ≤ dAt d (frm l k)) && decide (dAt d (v : Int) = dAt d (frm l k) + met l k)))
theorem okC_spec {nd : Nat} {l : List Lnk} {dn : List Bool} {s : Nat} {d : List Int} (h : okC nd l dn s d = true) : DistOk nd l dn s d := by
  unfold okC at h
  simp only [Bool.and_eq_true, decide_eq_true_eq, List.all_eq_true, List.mem_range, Bool.or_eq_true, List.any_eq_true, Bool.not_eq_true'] at h
  obtain ⟨⟨⟨⟨h1, h2⟩, h3⟩, h4⟩, h5⟩ := h
  refine ⟨h1, h2, h3, fun k hk hg hp => ?_, fun v hv hs hp => ?_⟩
  · rcases h4 k hk with (h6 | h6) | h6
    · rw [hg] at h6; cases h6
    · omega
    · exact h6
  · rcases h5 v hv with (h6 | h6) | ⟨k, h7, ⟨⟨h8, h9⟩, h10⟩, h11⟩
    · exact absurd h6 hs
    · omega
    · exact ⟨k, h7, h8, h9, h10, h11⟩
def allC (nd : Nat) (l : List Lnk) (dn : List Bool) : Bool := (List.range nd).all fun s => okC nd l dn s (distC nd l dn s)
theorem distC_eq {nd : Nat} {l : List Lnk} {dn : List Bool} {s : Nat} (hg : GOk nd l) (h : allC nd l dn = true) (hs : s < nd) : distS nd l dn s = distC nd l dn s := by
  unfold allC at h
  rw [List.all_eq_true] at h
  exact distS_eq hg (okC_spec (h s (List.mem_range.2 hs)))
def fromC (nd : Int) (l : List Lnk) (dn : List Bool) (s : Int) : List Int := if (checkS nd l).2 = 0 ∧ 0 ≤ s ∧ s < nd then distC nd.toNat l dn s.toNat else []
theorem fromC_eq {nd : Nat} {l : List Lnk} {dn : List Bool} (hg : GOk nd l) (h : allC nd l dn = true) : fromS (nd : Int) l dn = fromC (nd : Int) l dn := by
  funext s
  unfold fromS fromC
  by_cases hc : (checkS (nd : Int) l).2 = 0 ∧ 0 ≤ s ∧ s < nd
  · rw [if_pos hc, if_pos hc, Int.toNat_natCast, distC_eq hg h (by omega)]
  · rw [if_neg hc, if_neg hc]
section
variable (F : Int → List Int) (D : Nat → List Int)
def legsG (a : Int) : List Int → Option Int
  | [] => some 0
  | b :: r => if dAt (F a) b < 0 then none else (legsG b r).map fun s => dAt (F a) b + s
theorem legsG_eq (nd : Int) (l : List Lnk) (gn : List Bool) (a : Int) (r : List Int) : legsS nd l gn a r = legsG (fromS nd l gn) a r := by
  induction r generalizing a with
  | nil => rfl
  | cons b r ih => rw [legsS, legsG, ih]
def costG (nd : Int) (l : List Lnk) (x : Wnt) : Int × Int :=
  if rightS nd l x ≠ 0 then (0, rightS nd l x) else costL x.bnd (legsG F x.frm (x.via ++ [x.too]))
theorem costG_eq (nd : Int) (l : List Lnk) (x : Wnt) (dn : List Bool) : costS nd l x dn = costG (fromS nd l (prunedS nd l x dn)) nd l x := by
  unfold costG
  by_cases h : rightS nd l x ≠ 0
  · rw [if_pos h]; unfold costS; rw [if_pos h]
  · rw [if_neg h, ← legsG_eq, costS_L (by omega)]
def stepG (nd : Int) (l : List Lnk) (x : Wnt) (gn : List Bool) (v k e : Int) : Option (Int × Int) :=
  if (endsS l e).2.2 = true ∧ (endsS l e).1 = v ∧ 0 ≤ k ∧ k < (ptsS x).length - 1 ∧ e ∈ nextS nd l gn (F ((ptsS x).getD (k + 1).toNat 0)) v then some (comeS (ptsS x) (endsS l e).2.1 k) else none
theorem stepG_eq (nd : Int) (l : List Lnk) (x : Wnt) (gn : List Bool) (v k e : Int) : stepO nd l x gn v k e = stepG (fromS nd l gn) nd l x gn v k e := rfl
def nextTG (N : Nat) (l : List Lnk) (a b : Int) : List Int := if 0 ≤ b ∧ b < N then nextS N l [] (D b.toNat) a else []
def distTG (N : Nat) (a b : Int) : Int := if 0 ≤ a ∧ a < N ∧ 0 ≤ b ∧ b < N then dAt (D a.toNat) b else -1
def reachFG (N : Nat) (l : List Lnk) (x : Wnt) (gn : List Bool) (b : Int) : Nat → Int × Int → Option (Int × Int)
  | 0, p => if p.1 = b then some p else none
  | f + 1, p => if p.1 = b then some p else meetO ((nextTG D N l p.1 b).map fun e => (stepG F N l x gn p.1 p.2 e).bind (reachFG N l x gn b f))
theorem reachFG_eq (N : Nat) (l : List Lnk) (x : Wnt) (gn : List Bool) (b : Int) : ∀ f : Nat, reachF N l x gn b f = reachFG (fromS N l gn) (distS N l []) N l x gn b f := by
  intro f
  induction f with
  | zero => funext p; unfold reachF reachFG; rfl
  | succ f ih => funext p; unfold reachF reachFG; rw [ih]; rfl
def segG (N : Nat) (l : List Lnk) (x : Wnt) (gn : List Bool) (p : Int × Int) (e : Bool) (t : Int) : Option (Int × Int) :=
  if e = true then stepG F N l x gn p.1 p.2 t
  else if 0 ≤ t ∧ t < N ∧ 0 ≤ p.1 ∧ p.1 < N ∧ p.1 ≠ t ∧ 0 ≤ p.2 ∧ p.2 < (ptsS x).length then reachFG F D N l x gn t (distTG D N p.1 t).toNat p else none
theorem segG_eq (N : Nat) (l : List Lnk) (x : Wnt) (gn : List Bool) (p : Int × Int) (e : Bool) (t : Int) : segO N l x gn p e t = segG (fromS N l gn) (distS N l []) N l x gn p e t := by
  unfold segO segG reachO
  rw [reachFG_eq]
  rfl
def canG (N : Nat) (l : List Lnk) (x : Wnt) (gn : List Bool) : Nat → Int × Int → Bool
  | 0, p => decide (p = goalS x)
  | n + 1, p => (segsS N l).any fun s => goB (canG N l x gn n) (segG F D N l x gn p s.edge s.too)
theorem canG_eq (N : Nat) (l : List Lnk) (x : Wnt) (gn : List Bool) : ∀ n : Nat, canS N l x gn n = canG (fromS N l gn) (distS N l []) N l x gn n := by
  intro n
  induction n with
  | zero => funext p; unfold canS canG; rfl
  | succ n ih => funext p; unfold canS canG; simp only [ih, segG_eq]
def leastG (N : Nat) (l : List Lnk) (x : Wnt) (gn : List Bool) (d : Nat) (p : Int × Int) : Option Nat := (List.range (d + 1)).find? fun n => canG F D N l x gn n p
def pathG (N : Nat) (l : List Lnk) (x : Wnt) (gn : List Bool) : Nat → Int × Int → List Sg
  | 0, _ => []
  | n + 1, p => match (segsS N l).find? (fun s => goB (canG F D N l x gn n) (segG F D N l x gn p s.edge s.too)) with
    | some s => s :: pathG N l x gn n ((segG F D N l x gn p s.edge s.too).getD p)
    | none => []
theorem pathG_eq (N : Nat) (l : List Lnk) (x : Wnt) (gn : List Bool) : ∀ n : Nat, pathS N l x gn n = pathG (fromS N l gn) (distS N l []) N l x gn n := by
  intro n
  induction n with
  | zero => funext p; unfold pathS pathG; rfl
  | succ n ih =>
    funext p
    unfold pathS pathG
    simp only [canG_eq, segG_eq, ih]
    cases List.find? (fun s => goB (canG (fromS (↑N) l gn) (distS N l []) N l x gn n) (segG (fromS (↑N) l gn) (distS N l []) N l x gn p s.edge s.too)) (segsS N l) <;> rfl
def compG (N : Nat) (l : List Lnk) (x : Wnt) (gn : List Bool) (d : Int) : List Sg × Int :=
  if (costG F N l x).2 ≠ 0 then ([], (costG F N l x).2)
  else match leastG F D N l x gn (cutD d) (startS x) with
    | none => ([], 9)
    | some n => (pathG F D N l x gn n (startS x), 0)
theorem compG_eq (N : Nat) (l : List Lnk) (x : Wnt) (dn : List Bool) (d : Int) : compS N l x dn d = compG (fromS N l (prunedS N l x dn)) (distS N l []) N l x (prunedS N l x dn) d := by
  unfold compS compG leastS leastG
  simp only [costG_eq, canG_eq, pathG_eq]
  split
  · rfl
  · cases List.find? (fun n => canG (fromS (↑N) l (prunedS (↑N) l x dn)) (distS N l []) N l x (prunedS (↑N) l x dn) n (startS x)) (List.range (cutD d + 1)) <;> rfl
end
/-- What a want is compiled to, computed. -/
def compC (N : Nat) (l : List Lnk) (x : Wnt) (dn : List Bool) (d : Int) : List Sg × Int := compG (fromC N l (prunedS N l x dn)) (distC N l []) N l x (prunedS N l x dn) d
def evalC (N : Nat) (l : List Lnk) (gn : List Bool) : Bool := allC N l [] && allC N l gn
theorem stepG_in {D D' : Nat → List Int} {N : Nat} (h : ∀ s, s < N → D s = D' s) (F : Int → List Int) (l : List Lnk) (x : Wnt) (gn : List Bool) : segG F D N l x gn = segG F D' N l x gn := by
  have h1 : nextTG D N l = nextTG D' N l := by
    funext a b
    unfold nextTG
    by_cases hb : 0 ≤ b ∧ b < N
    · rw [if_pos hb, if_pos hb, h b.toNat (by omega)]
    · rw [if_neg hb, if_neg hb]
  have h2 : distTG D N = distTG D' N := by
    funext a b
    unfold distTG
    by_cases hb : 0 ≤ a ∧ a < N ∧ 0 ≤ b ∧ b < N
    · rw [if_pos hb, if_pos hb, h a.toNat (by omega)]
    · rw [if_neg hb, if_neg hb]
  have h3 : ∀ b f, reachFG F D N l x gn b f = reachFG F D' N l x gn b f := by
    intro b f
    induction f with
    | zero => funext p; unfold reachFG; rfl
    | succ f ih => funext p; unfold reachFG; rw [ih, h1]
  funext p e t
  unfold segG
  rw [h2]
  simp only [h3]
theorem compG_in {D D' : Nat → List Int} {N : Nat} (h : ∀ s, s < N → D s = D' s) (F : Int → List Int) (l : List Lnk) (x : Wnt) (gn : List Bool) (d : Int) : compG F D N l x gn d = compG F D' N l x gn d := by
  have h1 := stepG_in h F l x gn
  have h2 : ∀ n, canG F D N l x gn n = canG F D' N l x gn n := by
    intro n
    induction n with
    | zero => funext p; unfold canG; rfl
    | succ n ih => funext p; unfold canG; rw [ih, h1]
  have h3 : ∀ n, pathG F D N l x gn n = pathG F D' N l x gn n := by
    intro n
    induction n with
    | zero => funext p; unfold pathG; rfl
    | succ n ih => funext p; unfold pathG; rw [ih, h1, h2]
  unfold compG leastG
  simp only [h2, h3]
theorem compC_eq {N : Nat} {l : List Lnk} {x : Wnt} {dn : List Bool} {d : Int} (hg : GOk N l) (h : evalC N l (prunedS N l x dn) = true) : compS N l x dn d = compC N l x dn d := by
  unfold evalC at h
  rw [Bool.and_eq_true] at h
  rw [compG_eq, fromC_eq hg h.2]
  exact compG_in (fun s hs => distC_eq hg h.1 hs) _ l x _ d
/-- The example of chapter 18, as a try. -/
theorem try18 : compC 3 [⟨0, 1, 1, 0⟩, ⟨0, 2, 1, 0⟩, ⟨2, 1, 1, 0⟩] ⟨0, 1, 0, [], [], [], []⟩ [true, false, false] 3 = ([⟨false, 2⟩, ⟨false, 1⟩], 0) := by kernel_rfl
end Go.Proofs.Ytkemcgbedapkcaa

/- The reference's Around; what the laws ask of package repair. -/
namespace Go.Proofs.Ytkemcgbedapkcaa
open Go.RowKit
set_option maxHeartbeats 6400000
set_option maxRecDepth 100000
def bcl (L : List Bool) : List Value := L.map Value.bool
/-- The links that are down where one is. -/
def downA (n : Nat) (e : Int) : List Bool := (List.replicate n false).set (e.toNat / 2) true
/-- The want around an edge. -/
def wantA (l : List Lnk) (e t : Int) : Wnt := ⟨(endsS l e).1, t, 0, [], [], [], []⟩
/-- What leads around an edge. -/
noncomputable def aroundS (N : Nat) (l : List Lnk) (e t d : Int) : List Sg × Int := if (endsS l e).2.2 = true then compS N l (wantA l e t) (downA l.length e) d else ([], 5)
theorem aroundS_len {N : Nat} {l : List Lnk} {e t d : Int} : (aroundS N l e t d).1.length ≤ 10 := by
  unfold aroundS
  split
  · exact compS_len
  · exact Nat.zero_le _
theorem made_bcl (K : Nat) : madeCells #[.bool false] K = (bcl (List.replicate K false)).toArray := by
  apply Array.toList_inj.1
  rw [toList_madeCells_one]
  simp [bcl]
theorem dArg_row {W : World} {r n : Nat} {L : List Bool} (h : W.heap[r]? = some (.cells (bcl L).toArray 4 (0, 0))) (hl : L.length = n) (hn : n ≤ 200) : DArg W (some ⟨r, 0, none⟩) n n L := by
  refine ⟨⟨hl, fun _ => ⟨r, 0, rfl, blk_lt h, fun i v hv => ?_⟩⟩, hn, Nat.le_refl _, fun h => by cases h⟩
  rw [cell_of_row _ _ _ _ _ _ h]
  simp [bcl, hv]
def AroundAns (N : Nat) (l : List Lnk) (e t d : Int) (w : World) (x : Ending) (w' : World) : Prop :=
  ∃ (A : Option Addr) (c : Nat), x = .returned (.tuple #[.slice A (aroundS N l e t d).1.length c, .int .i64 (aroundS N l e t d).2]) ∧ RSeg w' w'.heap.size A (aroundS N l e t d).1.length (aroundS N l e t d).1 ∧ Below w.heap.size w w'
theorem wantA_arg {w : World} {l : List Lnk} {e t : Int} : WArg w (wantA l e t) yz := wz_arg w _ ⟨rfl, rfl, rfl, rfl⟩ (by show -9223372036854775808 ≤ (0 : Int) ∧ (0 : Int) ≤ 9223372036854775807; omega)
end Go.Proofs.Ytkemcgbedapkcaa

/- The reference's Around. -/
namespace Go.Proofs.Ytkemcgbedapkcaa
open Go.RowKit
set_option maxHeartbeats 6400000
set_option maxRecDepth 100000
theorem refAround_any (q N : Nat) (A' : Option Addr) (n c' : Nat) (vD : Value) (vs : List Value) (l : List Lnk) (e t d : Int) (w : World) (ht : RAt q A' n c' vD vs N l w) (hok : GOk N l) (hN10 : N ≤ 10) (hn16 : n ≤ 16) (he : In64 e) :
    Calls Try.prog 10 #[.pointer (some ⟨q, 0, none⟩), .int .i64 e, .int .i64 t, .int .i64 d] w (AroundAns N l e t d w) := by
  have hll := ht.len
  obtain ⟨a0, a1, a2⟩ := tbox_cells ht.box
  have HT := hid (fun W (hb : Below w.heap.size w W) => ht.on hb)
  have HE := hid (refEnds_any (N : Int) A' n c' l e w (own_garg ht.lnk ht.len hok).row (by omega) he.2)
  obtain ⟨ea, eb, eo, hE⟩ : ∃ a b o, endsS l e = (a, b, o) := ⟨_, _, _, rfl⟩
  rw [hE] at HE
  cases eo with
  | false =>
    have HV : Hid (aroundS N l e t d = ([], 5)) := by show _ = _; unfold aroundS; rw [hE]; rfl
    clear ht hok hE
    go_enter Try.func10, Try.ntmps10
    go_wp2_with (go_at_call 13; (with_reducible refine HE.out.mono ?_); rintro e' w2 ⟨rfl, hb2⟩)
    go_ret2
    exact ⟨none, 0, by rw [HV.out]; rfl, by rw [HV.out]; exact ⟨rfl, fun h => absurd h (Nat.lt_irrefl 0)⟩, hb2⟩
  | true =>
    have hE3 : (endsS l e).2.2 = true := by rw [hE]
    obtain ⟨k, ka, kb, rfl, hk, -, -, -⟩ := ends_facts (gok_check hok) hE3
    obtain ⟨h, hh⟩ : ∃ h, k / 2 = h := ⟨_, rfl⟩
    have hhn : h < n := by omega
    have hhi : (h : Int) < (n : Int) := by omega
    have HV : Hid (aroundS N l (k : Int) t d = compS N l (wantA l (k : Int) t) (downA n (k : Int)) d) := by show _ = _; unfold aroundS; rw [if_pos hE3, hll]
    have hW : wantA l (k : Int) t = ⟨ea, t, 0, [], [], [], []⟩ := by unfold wantA; rw [hE]
    have HDn : Hid (downA n (k : Int) = (List.replicate n false).set h true) := by show _ = _; unfold downA; rw [Int.toNat_natCast, hh]
    have HC : Hid (∀ (W : World) (r : Nat), RAt q A' n c' vD vs N l W → W.heap[r]? = some (.cells (bcl ((List.replicate n false).set h true)).toArray 4 (0, 0)) → Calls Try.prog 21 #[.pointer (some ⟨q, 0, none⟩), .agg #[.int .i64 ea, .int .i64 t, .int .i64 0, .slice none 0 0, .slice none 0 0, .slice none 0 0, .slice none 0 0], .slice (some ⟨r, 0, none⟩) n n, .int .i64 d] W fun x w' => ∃ (A : Option Addr) (c : Nat), x = .returned (.tuple #[.slice A (aroundS N l (k : Int) t d).1.length c, .int .i64 (aroundS N l (k : Int) t d).2]) ∧ RSeg w' w'.heap.size A (aroundS N l (k : Int) t d).1.length (aroundS N l (k : Int) t d).1 ∧ Below W.heap.size W w') := fun W r ht' hr => by
      have hd := dArg_row (n := n) hr (by rw [List.length_set, List.length_replicate]) (by omega)
      have := refComp_any q N A' n c' vD vs l (wantA l (k : Int) t) yz _ n n _ d W ht' hok hN10 hn16 wantA_arg hd (by decide) (by decide) (by decide) (by decide)
      rw [← HDn.out] at this
      unfold CompAns at this
      rw [← HV.out, hW] at this
      exact this
    have hmk : ∀ W : World, (Instr.makeSlice 43 (.int .i64 (n : Int)) (.int .i64 (n : Int))).run Try.prog W = .ok (.slice (some ⟨W.heap.size, 0, none⟩) n n) (W.alloc (.cells (bcl (List.replicate n false)).toArray 4)) := fun W => by
      obtain ⟨i7, hi7, hy0, hy1, hy2⟩ := info_parts (show (Try.prog.info? 4).map (fun i => (i.zero, i.size, i.bytes)) = some (some (.bool false), 1, 1) by kernel_rfl)
      have := run_makeSlice (P := Try.prog) (w := W) 43 4 i7 (.bool false) Try.underlying43 hi7 hy0 .i64 .i64 (n : Int) (n : Int) (by omega) (by omega) (by rw [hy1]; omega) (by rw [hy2]; omega) (by omega)
      rw [hy1, Int.toNat_natCast, Nat.mul_one] at this
      rw [← made_bcl]
      exact this
    have HR : Hid (∀ W : World, Below w.heap.size w W → Below w.heap.size w (W.alloc (.cells ((bcl (List.replicate n false)).set h (.bool true)).toArray 4)) ∧ (W.alloc (.cells ((bcl (List.replicate n false)).set h (.bool true)).toArray 4)).heap[W.heap.size]? = some (.cells (bcl ((List.replicate n false).set h true)).toArray 4 (0, 0))) := fun W hb => by
      refine ⟨hb.alloc hb.size _, ?_⟩
      rw [heap_alloc_new]
      simp only [bcl, List.map_set]
    have HCell : Hid (∀ W : World, (W.alloc (.cells (bcl (List.replicate n false)).toArray 4)).cell? ⟨W.heap.size, h, none⟩ = some (.bool false)) := fun W => by
      rw [cell_of_row _ _ _ _ _ _ (heap_alloc_new W _)]
      simp [bcl, hhn]
    have HFz : Hid (∀ (W : World) j, (W.alloc (.cells (bcl (List.replicate n false)).toArray 4)).frozen? ⟨W.heap.size, j, none⟩ = false) := fun W j => frozen_of_row _ _ _ _ _ (heap_alloc_new W _)
    have d3 : wrap64 (h : Int) = (h : Int) := IntWalk.wrap64_in _ (by omega)
    have d1 : Int.tdiv (k : Int) 2 = (h : Int) := by rw [← hh]; rfl
    clear hok hE hE3 ht hk hh hW
    go_enter Try.func10, Try.ntmps10
    go_wp2_with (first
      | (go_at_call 13; (with_reducible refine HE.out.mono ?_); rintro e' w2 ⟨rfl, hb2⟩; obtain ⟨z0, z1, z2⟩ := tbox_cells (HT.out _ hb2).box; have c0 := HCell.out w2; have f0 := HFz.out w2 h; have hR := hid (HR.out w2 hb2))
      | (go_at_call 21; (with_reducible refine (HC.out _ _ (HT.out _ hR.out.1) hR.out.2).mono ?_); rintro e' w3 ⟨A, c, rfl, hs3, hb3⟩))
    go_ret2
    exact ⟨A, c, rfl, hs3, hR.out.1.trans (hb3.mono hR.out.1.size)⟩
end Go.Proofs.Ytkemcgbedapkcaa

/- alive of chapter 18; RepairTells. -/
namespace Go.Proofs.Ytkemcgbedapkcaa
open Go.RowKit
set_option maxHeartbeats 6400000
set_option maxRecDepth 100000
/-- What package repair's Around is asked. -/
def AroundOps (TabAt : World → Addr → Nat → List Lnk → Prop) (f : Nat) : Prop :=
  ∀ (w : World) (p : Addr) (N : Nat) (l : List Lnk) (e t d : Int), TabAt w p N l → GOk N l → N ≤ 10 → l.length ≤ 16 → In64 e → In64 t → In64 d → Calls Try.prog f #[.pointer (some p), .int .i64 e, .int .i64 t, .int .i64 d] w (AroundAns N l e t d w)
def lk18 : List Lnk := [⟨0, 1, 1, 0⟩, ⟨0, 2, 1, 0⟩, ⟨2, 1, 1, 0⟩]
theorem lk18_ok : GOk 3 lk18 := ⟨by decide, by decide, by decide, by decide⟩
theorem rlnk18_new (w : World) : RLnk (w.alloc (.cells #[.int .i64 0, .int .i64 1, .int .i64 1, .int .i64 0, .int .i64 0, .int .i64 2, .int .i64 1, .int .i64 0, .int .i64 2, .int .i64 1, .int .i64 1, .int .i64 0] 49)) (w.heap.size + 1) (some ⟨w.heap.size, 0, none⟩) 3 lk18 := by
  refine ⟨rfl, fun _ => ⟨w.heap.size, 0, rfl, by omega, fun i e he => ?_⟩⟩
  have h := heap_alloc_new w (.cells #[.int .i64 0, .int .i64 1, .int .i64 1, .int .i64 0, .int .i64 0, .int .i64 2, .int .i64 1, .int .i64 0, .int .i64 2, .int .i64 1, .int .i64 1, .int .i64 0] 49)
  have hi : i < 3 := (List.getElem?_eq_some_iff.1 he).1
  rcases (show i = 0 ∨ i = 1 ∨ i = 2 by omega) with rfl | rfl | rfl
  all_goals
    injection he with he
    subst he
    refine ⟨?_, ?_, ?_, ?_⟩ <;> (rw [cell_of_row _ _ _ _ _ _ h]; rfl)
theorem around_no : aroundS 3 lk18 9 0 3 = ([], 5) := by unfold aroundS; rfl
theorem around_two : aroundS 3 lk18 0 1 3 = ([⟨false, 2⟩, ⟨false, 1⟩], 0) := by
  have h1 : aroundS 3 lk18 0 1 3 = compS 3 lk18 (wantA lk18 0 1) (downA 3 0) 3 := by unfold aroundS; rfl
  have h2 : compS 3 lk18 (wantA lk18 0 1) (downA 3 0) 3 = compC 3 lk18 (wantA lk18 0 1) (downA 3 0) 3 := compC_eq lk18_ok (show evalC 3 lk18 (prunedS 3 lk18 (wantA lk18 0 1) (downA 3 0)) = true by kernel_rfl)
  have h3 : compC 3 lk18 (wantA lk18 0 1) (downA 3 0) 3 = ([⟨false, 2⟩, ⟨false, 1⟩], 0) := by kernel_rfl
  exact (h1.trans h2).trans h3
theorem rnum_any (x : Int) (w : World) : Calls Try.prog 12 #[.int .i64 x] w fun e w' => e = .returned (.int .i64 x) ∧ w = w' := by
  go_enter Try.func12, Try.ntmps12
  go_wp2_with fail
  go_ret
  exact ⟨rfl, rfl⟩
theorem alive18 {TabAt : World → Addr → Nat → List Lnk → Prop} (hN : NewOps TabAt 16) (hO : AroundOps TabAt 9) (w : World) : Calls Try.prog 6 #[] w fun e w' => e = .returned (.bool true) ∧ Below w.heap.size w w' := by
  have hb0 : Below w.heap.size w (w.alloc (.cells #[.int .i64 0, .int .i64 1, .int .i64 1, .int .i64 0, .int .i64 0, .int .i64 2, .int .i64 1, .int .i64 0, .int .i64 2, .int .i64 1, .int .i64 1, .int .i64 0] 49)) := (Below.refl _ _).alloc (Nat.le_refl _) _
  have HT := hid (show Calls Try.prog 8 #[.agg #[.int .i64 3, .slice (some ⟨w.heap.size, 0, none⟩) 3 3]] (w.alloc (.cells #[.int .i64 0, .int .i64 1, .int .i64 1, .int .i64 0, .int .i64 0, .int .i64 2, .int .i64 1, .int .i64 0, .int .i64 2, .int .i64 1, .int .i64 1, .int .i64 0] 49)) fun e w' => Below w.heap.size w w' ∧ ∃ (p pr : Addr), e = .returned (.tuple #[.pointer (some p), .pointer (some pr), .bool true]) ∧ TabAt w' p 3 lk18 from by
    refine (tabs_any hN 3 (some ⟨w.heap.size, 0, none⟩) 3 3 lk18 _ ⟨(rlnk18_new w).more (by simp), by unfold maxLen; omega, by omega, fun h => (by cases h), by omega, by omega⟩).mono ?_
    rintro e w' ⟨hb, h1 | h1⟩
    · obtain ⟨_, N, p, pr, h2, h3, h4, _⟩ := h1
      obtain rfl : N = 3 := by omega
      exact ⟨hb0.trans (hb.mono hb0.size), p, pr, h3, h4⟩
    · exact (h1.1 (gok_check lk18_ok)).elim)
  have HL0 := hid (show ∀ (W : World) (p : Addr), TabAt W p 3 lk18 → Calls Try.prog 9 #[.pointer (some p), .int .i64 9, .int .i64 0, .int .i64 3] W fun e w' => ∃ A c, e = .returned (.tuple #[.slice A 0 c, .int .i64 5]) ∧ Below W.heap.size W w' from fun W p ht => by
    have := hO W p 3 lk18 9 0 3 ht lk18_ok (by decide) (by decide) ⟨by omega, by omega⟩ ⟨by omega, by omega⟩ ⟨by omega, by omega⟩
    unfold AroundAns at this
    rw [around_no] at this
    refine this.mono ?_
    rintro e w' ⟨A, c, h1, _, h2⟩
    exact ⟨A, c, h1, h2⟩)
  have HL1 := hid (show ∀ (W : World) (p : Addr), TabAt W p 3 lk18 → Calls Try.prog 9 #[.pointer (some p), .int .i64 0, .int .i64 1, .int .i64 3] W fun e w' => ∃ A c, e = .returned (.tuple #[.slice A 2 c, .int .i64 0]) ∧ Below W.heap.size W w' from fun W p ht => by
    have := hO W p 3 lk18 0 1 3 ht lk18_ok (by decide) (by decide) ⟨by omega, by omega⟩ ⟨by omega, by omega⟩ ⟨by omega, by omega⟩
    unfold AroundAns at this
    rw [around_two] at this
    refine this.mono ?_
    rintro e w' ⟨A, c, h1, _, h2⟩
    exact ⟨A, c, h1, h2⟩)
  have HK := hid hN.1
  have HNum := hid rnum_any
  clear hN hO
  go_enter Try.func6, Try.ntmps6
  go_wp2_with (first
    | (go_at_call 8; (with_reducible refine HT.out.mono ?_); rintro e1 w1 ⟨hb1, p, pr, rfl, ht1⟩; have B1 := hid hb1; have HT1 := hid ht1; clear hb1 ht1)
    | (go_at_call 12; (with_reducible refine (HNum.out _ _).mono ?_); rintro _ _ ⟨rfl, rfl⟩)
    | (go_at_call 9; (with_reducible refine (HL0.out _ _ HT1.out).mono ?_); rintro e2 w2 ⟨A2, c2, rfl, hb2⟩; have B2 := hid (B1.out.trans (hb2.mono B1.out.size)); have HT2 := hid (HK.out _ _ _ _ _ HT1.out hb2); clear hb2)
    | (go_at_call 9; (with_reducible refine (HL1.out _ _ HT2.out).mono ?_); rintro e3 w3 ⟨A3, c3, rfl, hb3⟩; have B3 := hid (B2.out.trans (hb3.mono B2.out.size)); clear hb3))
  go_ret
  exact ⟨rfl, B3.out⟩
end Go.Proofs.Ytkemcgbedapkcaa

/- RepairTells. -/
namespace Go.Proofs.Ytkemcgbedapkcaa
open Go.RowKit
set_option maxHeartbeats 6400000
set_option maxRecDepth 100000
theorem repTells_any {TabAt : World → Addr → Nat → List Lnk → Prop} (hN : NewOps TabAt 16) (hO : AroundOps TabAt 9) (nd : Int) (A : Option Addr) (n c : Nat) (l : List Lnk) (e t d : Int) (w : World) (hg : GAny w nd A n c l) (he : In64 e) (ht : In64 t) (hd : In64 d) :
    Calls Try.prog 3 #[.agg #[.int .i64 nd, .slice A n c], .int .i64 e, .int .i64 t, .int .i64 d] w fun x w' => x = .returned (.bool true) ∧ Below w.heap.size w w' := by
  have hS := Held.start w nd A n c
  have HA := hid (fun (w' : World) (h : Held w nd A n c w') => (alive18 hN hO w').mono fun _ _ h1 => (⟨h1.1, h.next h1.2⟩ : _ ∧ Held w nd A n c _))
  have HSm := hid (fun (w' : World) (h : Held w nd A n c w') => (small_any nd A n c w').mono fun _ _ h1 => (⟨h1.1, h.next h1.2⟩ : _ ∧ Held w nd A n c _))
  have HNum := hid rnum_any
  cases hs : smallB nd n with
  | false =>
    rw [hs] at HSm
    clear hN hO hg hs
    go_enter Try.func3, Try.ntmps3
    go_wp2_with (first
      | (go_at_call 6; (with_reducible refine (HA.out _ hS).mono ?_); rintro e' w1 ⟨rfl, h1⟩; obtain ⟨g0, g1⟩ := h1.cells)
      | (go_at_call 7; (with_reducible refine (HSm.out _ h1).mono ?_); rintro e' w2 ⟨rfl, h2⟩; obtain ⟨q0, q1⟩ := h2.cells))
    go_ret
    exact ⟨rfl, h2.1⟩
  | true =>
    rw [hs] at HSm
    have hn16 : nd ≤ 10 ∧ n ≤ 16 := by unfold smallB at hs; simp only [Bool.and_eq_true, decide_eq_true_eq] at hs; exact hs
    obtain ⟨n1, n2⟩ := hn16
    have hll : l.length = n := hg.row.1
    by_cases hck : (checkS nd l).2 = 0
    · obtain ⟨N, rfl⟩ : ∃ N : Nat, nd = (N : Int) := ⟨nd.toNat, by have := checkS_ok hck; omega⟩
      have hok := gok_of hck
      have HT := hid (show ∀ W, Held w (N : Int) A n c W → Calls Try.prog 8 #[.agg #[.int .i64 (N : Int), .slice A n c]] W fun e w' => ∃ (p pr : Addr), e = .returned (.tuple #[.pointer (some p), .pointer (some pr), .bool true]) ∧ TabAt w' p N l ∧ RefAt w' pr N l ∧ Held w (N : Int) A n c w' from fun W hh => by
        refine (tabs_any hN (N : Int) A n c l W (hg.on hh.1)).mono ?_
        rintro e w' ⟨hb, h1 | h1⟩
        · obtain ⟨_, N', p, pr, h2, h3, h4, h5⟩ := h1
          obtain rfl : N' = N := by omega
          exact ⟨p, pr, h3, h4, h5, hh.next hb⟩
        · exact (h1.1 hck).elim)
      obtain ⟨R1, R2, hR⟩ : ∃ R1 R2, aroundS N l e t d = (R1, R2) := ⟨_, _, rfl⟩
      have hlen := aroundS_len (N := N) (l := l) (e := e) (t := t) (d := d)
      rw [hR] at hlen
      dsimp only at hlen
      have HL := hid (show ∀ (W : World) (p : Addr), TabAt W p N l → Held w (N : Int) A n c W → Calls Try.prog 9 #[.pointer (some p), .int .i64 e, .int .i64 t, .int .i64 d] W fun x w' => ∃ B c2, x = .returned (.tuple #[.slice B R1.length c2, .int .i64 R2]) ∧ RSeg w' w'.heap.size B R1.length R1 ∧ Held w (N : Int) A n c w' ∧ Below W.heap.size W w' from fun W p hp hh => by
        refine (hO W p N l e t d hp hok (by omega) (by omega) he ht hd).mono ?_
        rintro x w' ⟨B, c2, h1, h3, h2⟩
        rw [hR] at h1 h3
        exact ⟨B, c2, h1, h3, hh.next h2, h2⟩)
      have HR := hid (show ∀ (W : World) (p : Addr), RefAt W p N l → Held w (N : Int) A n c W → Calls Try.prog 10 #[.pointer (some p), .int .i64 e, .int .i64 t, .int .i64 d] W fun x w' => ∃ B c2, x = .returned (.tuple #[.slice B R1.length c2, .int .i64 R2]) ∧ RSeg w' w'.heap.size B R1.length R1 ∧ Held w (N : Int) A n c w' ∧ Below W.heap.size W w' from fun W p hp hh => by
        obtain ⟨BT, A', n3, c2, vD, vs, rfl, ht2⟩ := hp
        refine (refAround_any BT N A' n3 c2 vD vs l e t d W ht2 hok (by omega) (by have := ht2.len; omega) he).mono ?_
        rintro x w' ⟨B, c2, h1, h3, h2⟩
        rw [hR] at h1 h3
        exact ⟨B, c2, h1, h3, hh.next h2, h2⟩)
      have HSS := hid (fun (B B' : Option Addr) (c1 c2 : Nat) (W : World) (h1 : RSeg W W.heap.size B R1.length R1) (h2 : RSeg W W.heap.size B' R1.length R1) => sameSegs_any B B' R1.length c1 c2 R1 W h1 h2 (by omega))
      have k1 : (R2 == R2) = true := beq_self_eq_true _
      clear hN hO hg hs he ht hd hck hll hR hlen hok
      go_enter Try.func3, Try.ntmps3
      go_wp2_with (first
        | (go_at_call 6; (with_reducible refine (HA.out _ hS).mono ?_); rintro e' w1 ⟨rfl, h1⟩; obtain ⟨g0, g1⟩ := h1.cells)
        | (go_at_call 7; (with_reducible refine (HSm.out _ h1).mono ?_); rintro e' w2 ⟨rfl, h2⟩; obtain ⟨q0, q1⟩ := h2.cells)
        | (go_at_call 8; (with_reducible refine (HT.out _ h2).mono ?_); rintro e' w4 ⟨p, pr, rfl, ht4, hr4, h4⟩; have HT4 := hid ht4; have HR4 := hid hr4; clear ht4 hr4)
        | (go_at_call 9; (with_reducible refine (HL.out _ _ HT4.out h4).mono ?_); rintro e' w5 ⟨B, c5, rfl, hs5, h5, hb5⟩; have HS5 := hid hs5; have HR5 := hid (refAt_keep _ _ _ _ _ HR4.out hb5); clear hs5 hb5)
        | (go_at_call 10; (with_reducible refine (HR.out _ _ HR5.out h5).mono ?_); rintro e' w6 ⟨B', c6, rfl, hs6, h6, hb6⟩; have HS6 := hid hs6; have HS56 := hid (HS5.out.on hb6); have HB6 := hid h6.1; clear hs6 hb6)
        | (go_at_call 11; (with_reducible refine (HSS.out _ _ _ _ _ HS56.out HS6.out).mono ?_); rintro e' w7 ⟨rfl, hb7⟩; have HB7 := hid (HB6.out.trans (hb7.mono HB6.out.size)); clear hb7)
        | (go_at_call 12; (with_reducible refine (HNum.out _ _).mono ?_); rintro _ _ ⟨rfl, rfl⟩))
      go_ret
      exact ⟨rfl, HB7.out⟩
    · have HT := hid (show ∀ W, Held w nd A n c W → Calls Try.prog 8 #[.agg #[.int .i64 nd, .slice A n c]] W fun e w' => (∃ v1 v2, e = .returned (.tuple #[v1, v2, .bool false])) ∧ Held w nd A n c w' from fun W hh => by
        refine (tabs_any hN nd A n c l W (hg.on hh.1)).mono ?_
        rintro e w' ⟨hb, h1 | h1⟩
        · exact (hck h1.1).elim
        · exact ⟨h1.2, hh.next hb⟩)
      clear hN hO hg hs he ht hd hck hll
      go_enter Try.func3, Try.ntmps3
      go_wp2_with (first
        | (go_at_call 6; (with_reducible refine (HA.out _ hS).mono ?_); rintro e' w1 ⟨rfl, h1⟩; obtain ⟨g0, g1⟩ := h1.cells)
        | (go_at_call 7; (with_reducible refine (HSm.out _ h1).mono ?_); rintro e' w2 ⟨rfl, h2⟩; obtain ⟨q0, q1⟩ := h2.cells)
        | (go_at_call 8; (with_reducible refine (HT.out _ h2).mono ?_); rintro e' w4 ⟨⟨v1, v2, rfl⟩, h4⟩))
      go_ret
      exact ⟨rfl, h4.1⟩
end Go.Proofs.Ytkemcgbedapkcaa
