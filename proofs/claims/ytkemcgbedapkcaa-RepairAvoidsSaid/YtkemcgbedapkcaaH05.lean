/- Merged: CvA CwA. -/
import Derived.Test.YtkemcgbedapkcaaG10
import Derived.Test.YtkemcgbedapkcaaG06
import Derived.Test.YtkemcgbedapkcaaH01
import Derived.Test.YtkemcgbedapkcaaG35
import Derived.Test.YtkemcgbedapkcaaG18
/- Without a link by the want, or because it is down, plainly. -/
namespace Go.Proofs.Ytkemcgbedapkcaa
open Go.RowKit
set_option maxHeartbeats 6400000
set_option maxRecDepth 100000
/-- Two wants that part in what they shut out alone. -/
theorem step_lks (nd : Int) (l : List Lnk) (f t : Int) (L : List Int) (gn : List Bool) : stepO nd l ⟨f, t, 0, [], [], L, []⟩ gn = stepO nd l ⟨f, t, 0, [], [], [], []⟩ gn := rfl
theorem reachF_lks (N : Nat) (l : List Lnk) (f t : Int) (L : List Int) (gn : List Bool) (b : Int) : ∀ (k : Nat) (p : Int × Int), reachF N l ⟨f, t, 0, [], [], L, []⟩ gn b k p = reachF N l ⟨f, t, 0, [], [], [], []⟩ gn b k p
  | 0, p => rfl
  | k + 1, p => by
    unfold reachF
    by_cases h : p.1 = b
    · rw [if_pos h, if_pos h]
    · rw [if_neg h, if_neg h]
      refine meetO_congr fun e _ => ?_
      rw [step_lks]
      cases stepO N l ⟨f, t, 0, [], [], [], []⟩ gn p.1 p.2 e with
      | none => rfl
      | some q => exact reachF_lks N l f t L gn b k q
theorem segO_lks (N : Nat) (l : List Lnk) (f t : Int) (L : List Int) (gn : List Bool) : segO N l ⟨f, t, 0, [], [], L, []⟩ gn = segO N l ⟨f, t, 0, [], [], [], []⟩ gn := by
  funext p e k
  unfold segO reachO
  rw [step_lks, reachF_lks]
  rfl
theorem canS_lks (N : Nat) (l : List Lnk) (f t : Int) (L : List Int) (gn : List Bool) : ∀ (n : Nat) (p : Int × Int), canS N l ⟨f, t, 0, [], [], L, []⟩ gn n p = canS N l ⟨f, t, 0, [], [], [], []⟩ gn n p
  | 0, p => rfl
  | n + 1, p => by
    unfold canS
    rw [segO_lks]
    have : canS N l ⟨f, t, 0, [], [], L, []⟩ gn n = canS N l ⟨f, t, 0, [], [], [], []⟩ gn n := funext (canS_lks N l f t L gn n)
    rw [this]
theorem pathS_lks (N : Nat) (l : List Lnk) (f t : Int) (L : List Int) (gn : List Bool) : ∀ (n : Nat) (p : Int × Int), pathS N l ⟨f, t, 0, [], [], L, []⟩ gn n p = pathS N l ⟨f, t, 0, [], [], [], []⟩ gn n p
  | 0, p => rfl
  | n + 1, p => by
    unfold pathS
    rw [segO_lks]
    have : canS N l ⟨f, t, 0, [], [], L, []⟩ gn n = canS N l ⟨f, t, 0, [], [], [], []⟩ gn n := funext (canS_lks N l f t L gn n)
    rw [this]
    cases (segsS N l).find? _ with
    | none => rfl
    | some s => exact congrArg _ (pathS_lks N l f t L gn n _)
/-- Without a link by the want, or because it is down: the same list. -/
theorem comp_lks {N : Nat} {l : List Lnk} {f t d : Int} {h : Nat} (hh : h < l.length) : compS N l ⟨f, t, 0, [], [], [(h : Int)], []⟩ [] d = compS N l ⟨f, t, 0, [], [], [], []⟩ ((List.replicate l.length false).set h true) d := by
  have hr : rightS (N : Int) l ⟨f, t, 0, [], [], [(h : Int)], []⟩ = rightS (N : Int) l ⟨f, t, 0, [], [], [], []⟩ := by
    unfold rightS
    have h1 : ([(h : Int)].any (fun i => !nodeB (l.length : Int) i)) = false := by simp [nodeB]; omega
    simp only [h1]
    rfl
  have hp : prunedS (N : Int) l ⟨f, t, 0, [], [], [(h : Int)], []⟩ [] = prunedS (N : Int) l ⟨f, t, 0, [], [], [], []⟩ ((List.replicate l.length false).set h true) := by
    unfold prunedS
    rw [hr]
    split
    · refine List.map_congr_left fun i hi => ?_
      have := List.mem_range.1 hi
      unfold cutB isDn
      by_cases e : i = h
      · subst e; simp [this]
      · have e2 : ¬ h = i := fun e3 => e e3.symm
        have e4 : ¬ (i : Int) = (h : Int) := by omega
        simp [e2, e4, this]
    · rfl
  have hc : costS (N : Int) l ⟨f, t, 0, [], [], [(h : Int)], []⟩ [] = costS (N : Int) l ⟨f, t, 0, [], [], [], []⟩ ((List.replicate l.length false).set h true) := by
    unfold costS
    rw [hr, hp]
  unfold compS
  rw [hc, hp]
  split
  · rfl
  · have hl : ∀ (gn : List Bool) (n : Nat) (p : Int × Int), leastS N l ⟨f, t, 0, [], [], [(h : Int)], []⟩ gn n p = leastS N l ⟨f, t, 0, [], [], [], []⟩ gn n p := fun gn n p => by
      unfold leastS
      congr 1
      funext m
      exact canS_lks N l f t _ gn m p
    rw [hl]
    have hs : startS ⟨f, t, 0, [], [], [(h : Int)], []⟩ = startS ⟨f, t, 0, [], [], [], []⟩ := rfl
    rw [hs]
    cases leastS N l ⟨f, t, 0, [], [], [], []⟩ (prunedS (N : Int) l ⟨f, t, 0, [], [], [], []⟩ ((List.replicate l.length false).set h true)) (cutD d) (startS ⟨f, t, 0, [], [], [], []⟩) with
    | none => rfl
    | some n => exact congrArg (fun z => (z, (0 : Int))) (pathS_lks N l f t _ _ n _)
end Go.Proofs.Ytkemcgbedapkcaa

/- repair.Around: compile.List without the edge's link. -/
namespace Go.Proofs.Ytkemcgbedapkcaa
open Go.RowKit
set_option maxHeartbeats 6400000
set_option maxRecDepth 100000
/-- What Around answers, its list a row of the call's own. -/
def AroundOwn (N : Nat) (l : List Lnk) (e t d : Int) (w : World) (x : Ending) (w' : World) : Prop :=
  ∃ v, x = .returned (.tuple #[v, .int .i64 (aroundS N l e t d).2]) ∧ w'.ownsRow 0 46 2 v (aroundS N l e t d).1.length (scells2 (aroundS N l e t d).1) ∧ Below w.heap.size w w'
theorem around_own (tp : Addr) (N : Nat) (l : List Lnk) (e t d : Int) (w : World) (ht : TabAt w tp N l) (hg : GOk N l) (hN : N ≤ 10) (hl16 : l.length ≤ 16) (he64 : In64 e) (_ht64 : In64 t) (hd : In64 d) :
    Calls Try.prog 9 #[.pointer (some tp), .int .i64 e, .int .i64 t, .int .i64 d] w (AroundOwn N l e t d w) := by
  have HB := hid (Below.refl w.heap.size w)
  have HG := hid (fun W (hb : Below w.heap.size w W) => tgraph3_any (tabAt_keep _ _ _ _ _ ht hb) hg)
  have HE := hid (fun (W : World) (A : Option Addr) (c : Nat) (ho : W.ownsRow 0 49 4 (.slice A l.length c) l.length (lcells l)) => ends_any (N : Int) A l.length c l e W (links_at ho) (by omega) he64.2)
  by_cases hends : (endsS l e).2.2 = true
  · obtain ⟨k, rfl⟩ : ∃ k : Nat, (k : Int) = e := by
      by_cases h0 : e < 0
      · unfold endsS at hends; rw [if_pos h0] at hends; cases hends
      · exact ⟨e.toNat, by omega⟩
    obtain ⟨q, hq⟩ : ∃ q, k / 2 = q := ⟨_, rfl⟩
    have hql : q < l.length := by
      apply Classical.byContradiction
      intro h
      rw [endsS_none (by omega)] at hends
      cases hends
    have d3 : wrap64 (q : Int) = (q : Int) := IntWalk.wrap64_in _ (by omega)
    have d1 : Int.tdiv (k : Int) 2 = (q : Int) := by rw [← hq]; rfl
    have Q : aroundS N l (k : Int) t d = compS N l ⟨(endsS l (k : Int)).1, t, 0, [], [], [(q : Int)], []⟩ [] d := by
      unfold aroundS
      rw [if_pos hends, comp_lks hql]
      have h2 : downA l.length (k : Int) = (List.replicate l.length false).set q true := by
        unfold downA
        rw [show (Int.toNat (k : Int)) / 2 = q by omega]
      rw [h2]
      rfl
    obtain ⟨a, b, ok, hab⟩ : ∃ a b ok, endsS l (k : Int) = (a, b, ok) := ⟨_, _, _, rfl⟩
    rw [hab] at hends Q HE
    dsimp only at hends Q HE
    subst hends
    have HL := hid (fun (W : World) (B : Nat) (hb : Below w.heap.size w W) (hB : W.heap[B]? = some (.cells #[.int .i64 (q : Int)] 3 (0, 0))) => show Calls Try.prog 20 #[.pointer (some tp), .agg #[.int .i64 a, .int .i64 t, .int .i64 0, .slice none 0 0, .slice none 0 0, .slice (some ⟨B, 0, none⟩) 1 1, .slice none 0 0], .slice none 0 0, .int .i64 d] W (ListAns N l ⟨a, t, 0, [], [], [(q : Int)], []⟩ [] d W) from by
      have h0 : LArg W none 0 0 [] := ⟨⟨rfl, fun h => by omega⟩, Nat.le_refl _, fun _ => ⟨rfl, rfl⟩, Nat.zero_le _, fun x hx => by cases hx⟩
      have h1 : LArg W (some ⟨B, 0, none⟩) 1 1 [(q : Int)] := by
        refine ⟨⟨rfl, fun _ => ⟨B, 0, rfl, blk_lt hB, fun i z hz => ?_⟩⟩, Nat.le_refl _, fun h => (by cases h), by unfold maxLen; omega, fun x hx => ?_⟩
        · have hi : i = 0 := by
            have := (List.getElem?_eq_some_iff.1 hz).1
            simp at this; omega
          subst hi
          injection hz with hz
          subst hz
          rw [cell_of_row _ _ _ _ _ _ hB]
          rfl
        · rcases List.mem_singleton.1 hx with rfl
          omega
      exact list_any tp N l ⟨a, t, 0, [], [], [(q : Int)], []⟩ ⟨none, 0, 0, none, 0, 0, some ⟨B, 0, none⟩, 1, 1, none, 0, 0⟩ none 0 0 [] d W (tabAt_keep _ _ _ _ _ ht hb) hg hN hl16 ⟨h0, h0, h1, h0, by show (-9223372036854775808 : Int) ≤ 0 ∧ (0 : Int) ≤ 9223372036854775807; omega⟩ (DArg.nil W) (Nat.zero_le _) (Nat.zero_le _) (by show 1 ≤ 100; omega) (Nat.zero_le _) hd)
    have HQ := hid Q
    clear ht hg Q hab hq hql he64 hd
    go_enter Try.func9, Try.ntmps9
    go_wp2_with (first
      | (go_at_call 19; (with_reducible refine (HG.out _ HB.out).mono ?_); rintro e1 w1 ⟨A1, c1, rfl, hown1, hb1⟩; have HB1 := hid (HB.out.trans (hb1.mono HB.out.size)); have HE1 := hid (HE.out _ _ _ hown1); clear hown1 hb1)
      | (go_at_call 18; (with_reducible refine HE1.out.mono ?_); rintro e2 w2 ⟨rfl, hb2⟩; have HB2 := hid (HB1.out.trans (hb2.mono HB1.out.size)); have a1 := (Below.refl w2.heap.size w2).alloc (Nat.le_refl _) (.cells #[.int .i64 (q : Int)] 3); have a2 := a1.alloc a1.size (.cells #[.int .i64 a, .int .i64 t, .int .i64 0, .slice none 0 0, .slice none 0 0, .slice (some ⟨w2.heap.size, 0, none⟩) 1 1, .slice none 0 0] 58); have HB4 := hid (HB2.out.trans (a2.mono HB2.out.size)); have HX4 := hid (box_below (heap_alloc_new w2 (.cells #[.int .i64 (q : Int)] 3)) ((Below.refl _ _).alloc (Nat.le_refl _) (.cells #[.int .i64 a, .int .i64 t, .int .i64 0, .slice none 0 0, .slice none 0 0, .slice (some ⟨w2.heap.size, 0, none⟩) 1 1, .slice none 0 0] 58)) (by simp)); clear hb2 a1 a2)
      | (go_at_call 20; (with_reducible refine (HL.out _ _ HB4.out HX4.out).mono ?_); rintro e3 w3 ⟨v3, rfl, ho3, hb3⟩; obtain ⟨A3, c3, rfl⟩ := own_form ho3; have HO3 := hid ho3; have HB5 := hid (HB4.out.trans (hb3.mono HB4.out.size)); clear ho3 hb3))
    refine bodyPost_ret (results_tmp2 rfl _ _ _) rfl ?_
    unfold AroundOwn
    rw [HQ.out]
    exact ⟨_, rfl, HO3.out, HB5.out⟩
  · have Q : aroundS N l e t d = ([], 5) := by unfold aroundS; rw [if_neg hends]
    obtain ⟨a, b, ok, hab⟩ : ∃ a b ok, endsS l e = (a, b, ok) := ⟨_, _, _, rfl⟩
    rw [hab] at hends HE
    dsimp only at hends HE
    obtain rfl : ok = false := by simpa using hends
    have HQ := hid Q
    clear ht hg Q hab he64 hd hends
    go_enter Try.func9, Try.ntmps9
    go_wp2_with (first
      | (go_at_call 19; (with_reducible refine (HG.out _ HB.out).mono ?_); rintro e1 w1 ⟨A1, c1, rfl, hown1, hb1⟩; have HB1 := hid (HB.out.trans (hb1.mono HB.out.size)); have HE1 := hid (HE.out _ _ _ hown1); clear hown1 hb1)
      | (go_at_call 18; (with_reducible refine HE1.out.mono ?_); rintro e2 w2 ⟨rfl, hb2⟩; have HB2 := hid (HB1.out.trans (hb2.mono HB1.out.size)); clear hb2))
    refine bodyPost_ret (results_tmp2 rfl _ _ _) rfl ?_
    unfold AroundOwn
    rw [HQ.out]
    exact ⟨_, rfl, World.ownsRow_nil _ _ _ _, HB2.out⟩
theorem around_ops : AroundOps TabAt 9 := by
  intro w p N l e t d ht hg hN hl he h64 hd
  refine (around_own p N l e t d w ht hg hN hl he h64 hd).mono ?_
  rintro x w' ⟨v, rfl, hown, hb⟩
  obtain ⟨A, c, rfl⟩ := own_form hown
  obtain ⟨A', c', he, _, hr⟩ := own_segs hown rfl
  simp only [Value.slice.injEq] at he
  obtain ⟨rfl, _, rfl⟩ := he
  exact ⟨A, c, rfl, hr, hb⟩
end Go.Proofs.Ytkemcgbedapkcaa
