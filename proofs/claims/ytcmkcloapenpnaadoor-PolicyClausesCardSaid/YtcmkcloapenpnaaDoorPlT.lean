/- A rule with clauses in whatever order, plainly. -/
import Derived.Test.YtcmkcloapenpnaaDoorPlO
namespace Go.Proofs.YtcmkcloapenpnaaDoor
open Go.RowKit
set_option maxHeartbeats 6400000
set_option maxRecDepth 100000
/-- The thirteen clauses. -/
def cK : Nat → Chk
  | 0 => chL 0 [2, 3] setVia
  | 1 => chL 1 [4] setNds
  | 2 => chL 2 [5, 6] setLks
  | 3 => chL 3 [7] setCls
  | 4 => chN 4 8 setBnd
  | 5 => chP 5 16777216 8 setSrc
  | 6 => chP 6 33554432 7 setDst
  | 7 => chN 7 6 setPr
  | 8 => chN 8 9 setSp
  | 9 => chN 9 10 setDp
  | 10 => chS
  | 11 => chN 11 0 setFrm
  | _ => chN 12 1 setToo
instance in31_dec (v : Int) : Decidable (In31 v) := inferInstanceAs (Decidable (0 ≤ v ∧ v ≤ 2147483647))
theorem cK_ok : ∀ k, k < 13 → ChkOk (cK k) := by
  intro k hk
  rcases (show k = 0 ∨ k = 1 ∨ k = 2 ∨ k = 3 ∨ k = 4 ∨ k = 5 ∨ k = 6 ∨ k = 7 ∨ k = 8 ∨ k = 9 ∨ k = 10 ∨ k = 11 ∨ k = 12 by omega) with rfl | rfl | rfl | rfl | rfl | rfl | rfl | rfl | rfl | rfl | rfl | rfl | rfl
  · exact chL_ok (by decide) (by decide) (by decide) fun _ _ => rfl
  · exact chL_ok (by decide) (by decide) (by decide) fun _ _ => rfl
  · exact chL_ok (by decide) (by decide) (by decide) fun _ _ => rfl
  · exact chL_ok (by decide) (by decide) (by decide) fun _ _ => rfl
  · exact chN_ok (by decide) (by decide) fun _ _ => rfl
  · exact chP_ok (by decide) ⟨16777216, 8, by decide, by decide, by decide, rfl⟩ fun _ _ => rfl
  · exact chP_ok (by decide) ⟨33554432, 7, by decide, by decide, by decide, rfl⟩ fun _ _ => rfl
  · exact chN_ok (by decide) (by decide) fun _ _ => rfl
  · exact chN_ok (by decide) (by decide) fun _ _ => rfl
  · exact chN_ok (by decide) (by decide) fun _ _ => rfl
  · exact chS_ok
  · exact chN_ok (by decide) (by decide) fun _ _ => rfl
  · exact chN_ok (by decide) (by decide) fun _ _ => rfl
theorem cK_ix : ∀ k, k < 13 → (cK k).i = k := by
  intro k hk
  rcases (show k = 0 ∨ k = 1 ∨ k = 2 ∨ k = 3 ∨ k = 4 ∨ k = 5 ∨ k = 6 ∨ k = 7 ∨ k = 8 ∨ k = 9 ∨ k = 10 ∨ k = 11 ∨ k = 12 by omega) with rfl | rfl | rfl | rfl | rfl | rfl | rfl | rfl | rfl | rfl | rfl | rfl | rfl <;> rfl
theorem cK_tk (k : Nat) (hk : k < 13) : ∀ t ∈ (cK k).toks, TkOk t := by
  rcases (show k = 0 ∨ k = 1 ∨ k = 2 ∨ k = 3 ∨ k = 4 ∨ k = 5 ∨ k = 6 ∨ k = 7 ∨ k = 8 ∨ k = 9 ∨ k = 10 ∨ k = 11 ∨ k = 12 by omega) with rfl | rfl | rfl | rfl | rfl | rfl | rfl | rfl | rfl | rfl | rfl | rfl | rfl
  · exact chL_tk (by decide)
  · exact chL_tk (by decide)
  · exact chL_tk (by decide)
  · exact chL_tk (by decide)
  · exact chN_tk (by decide)
  · exact chP_tk (by decide)
  · exact chP_tk (by decide)
  · exact chN_tk (by decide)
  · exact chN_tk (by decide)
  · exact chN_tk (by decide)
  · intro t ht
    simp only [Chk.toks, cK, chS, List.mem_cons, List.not_mem_nil, or_false] at ht
    subst ht
    exact word_tk 10 (by decide)
  · exact chN_tk (by decide)
  · exact chN_tk (by decide)
theorem cK_comm (i j : Nat) (r : Rul) (hi : i < 13) (hj : j < 13) : (cK i).f ((cK j).f r) = (cK j).f ((cK i).f r) := by
  rcases (show i = 0 ∨ i = 1 ∨ i = 2 ∨ i = 3 ∨ i = 4 ∨ i = 5 ∨ i = 6 ∨ i = 7 ∨ i = 8 ∨ i = 9 ∨ i = 10 ∨ i = 11 ∨ i = 12 by omega) with rfl | rfl | rfl | rfl | rfl | rfl | rfl | rfl | rfl | rfl | rfl | rfl | rfl <;>
  rcases (show j = 0 ∨ j = 1 ∨ j = 2 ∨ j = 3 ∨ j = 4 ∨ j = 5 ∨ j = 6 ∨ j = 7 ∨ j = 8 ∨ j = 9 ∨ j = 10 ∨ j = 11 ∨ j = 12 by omega) with rfl | rfl | rfl | rfl | rfl | rfl | rfl | rfl | rfl | rfl | rfl | rfl | rfl <;> rfl
/-- A clause as it is written. -/
def txK (k : Nat) : List UInt8 := spell (cK k).toks
theorem scL_endsemi (i : Nat) : (scL i [59]).1.map era = [(3, [59])] ∧ (scL i [59]).2 = none := ⟨rfl, rfl⟩
theorem scL_last : ∀ (ts : List Tk) (i : Nat), (∀ t ∈ ts, TkOk t) → (scL i (spell ts ++ [59])).1.map era = ts ++ [(3, [59])] ∧ (scL i (spell ts ++ [59])).2 = none := by
  intro ts
  induction ts with
  | nil => intro i _; exact scL_endsemi i
  | cons t ts ih =>
    intro i h
    obtain ⟨c, q', hq, hc1, hc2⟩ : ∃ c q', spell ts ++ [59] = c :: q' ∧ isWd c = false ∧ isNm c = false := by
      cases ts with
      | nil => exact ⟨59, _, rfl, by decide, by decide⟩
      | cons u us => exact ⟨32, _, rfl, by decide, by decide⟩
    obtain ⟨p, hp⟩ := scL_any (h t (by simp)) (i + 1) c q' hc1 hc2
    rw [← hq] at hp
    obtain ⟨h1, h2⟩ := ih (i + 1 + t.2.length) (fun u hu => h u (by simp [hu]))
    have e : spell (t :: ts) ++ [59] = 32 :: (t.2 ++ (spell ts ++ [59])) := by simp [spell]
    rw [e, scL_blank (by decide), hp]
    exact ⟨by simp only [List.map_cons, h1]; rfl, h2⟩
/-- 'rule x 5' -/
def hdX : List UInt8 := [114, 117, 108, 101, 32, 120, 32, 53]
def baseX : Rul := { noRul with name := [120], pri := 5 }
def tkX : List Tk := [(1, [120]), (2, [53])]
theorem hdX_eq : hdX = ruleW ++ spell tkX := by decide
theorem tkX_ok : ∀ t ∈ tkX, TkOk t := by
  intro t ht
  simp only [tkX, List.mem_cons, List.not_mem_nil, or_false] at ht
  rcases ht with rfl | rfl
  · exact .inl ⟨rfl, ⟨_, _, rfl, by decide⟩, by decide⟩
  · exact .inr ⟨rfl, ⟨_, _, rfl, by decide⟩, by decide⟩
/-- A rule of clauses in some order is read as what they do one behind the other. -/
theorem parse_order (ks : List Nat) (hlt : ∀ k ∈ ks, k < 13) (hnd : ks.Nodup) (h11 : 11 ∈ ks) (h12 : 12 ∈ ks) (hl : (hdX ++ ks.flatMap txK ++ [59]).length ≤ 10000) : parseS (hdX ++ ks.flatMap txK ++ [59]) = ([ks.foldl (fun r k => (cK k).f r) baseX], -1, 0) := by
  have hsp : ks.flatMap txK = spell (ks.flatMap fun k => (cK k).toks) := by
    unfold txK spell
    rw [List.flatMap_assoc]
  have htk : ∀ t ∈ tkX ++ ks.flatMap (fun k => (cK k).toks), TkOk t := by
    intro t ht
    rcases List.mem_append.1 ht with ht | ht
    · exact tkX_ok t ht
    · obtain ⟨k, hk, ht⟩ := List.mem_flatMap.1 ht
      exact cK_tk k (hlt k hk) t ht
  obtain ⟨ts, hts⟩ : ∃ ts, tkX ++ ks.flatMap (fun k => (cK k).toks) = ts := ⟨_, rfl⟩
  rw [hts] at htk
  have e : hdX ++ ks.flatMap txK ++ [59] = ruleW ++ (spell ts ++ [59]) := by
    rw [hdX_eq, hsp, ← hts, spell_app]
    simp only [List.append_assoc]
  rw [e] at hl ⊢
  obtain ⟨c, q', hq, hc1, hc2⟩ : ∃ c q', spell ts ++ [59] = c :: q' ∧ isWd c = false ∧ isNm c = false := by
    cases ts with
    | nil => exact ⟨59, _, rfl, by decide, by decide⟩
    | cons u us => exact ⟨32, _, rfl, by decide, by decide⟩
  obtain ⟨p, hp⟩ := scL_any (t := (1, ruleW)) rule_tk 0 c q' hc1 hc2
  rw [← hq] at hp
  obtain ⟨h1, h2⟩ := scL_last ts (0 + ruleW.length) htk
  obtain ⟨l, hl1⟩ : ∃ l, (scL 0 (ruleW ++ (spell ts ++ [59]))).1 = l := ⟨_, rfl⟩
  have hl2 : l.map era = (1, ruleW) :: (ts ++ [(3, [59])]) := by
    rw [← hl1, hp]
    simp only [List.map_cons]
    rw [h1]
    rfl
  have hl3 : (scL 0 (ruleW ++ (spell ts ++ [59]))).2 = none := by rw [hp]; exact h2
  have hs : splitS (ruleW ++ (spell ts ++ [59])) = (l, -1, 0) := by
    unfold splitS
    rw [if_neg (by omega)]
    have h3 : scanAt (ruleW ++ (spell ts ++ [59])) 0 = (l, none) := by
      unfold scanAt
      rw [List.drop_zero]
      show scL 0 _ = _
      rw [← hl1, ← hl3]
    rw [h3]
  have hcs : ∀ c ∈ ks.map cK, ChkOk c := by
    intro c hc
    obtain ⟨k, hk, rfl⟩ := List.mem_map.1 hc
    exact cK_ok k (hlt k hk)
  have hix : (ks.map cK).map (·.i) = ks := by
    rw [List.map_map]
    conv => rhs; rw [← List.map_id ks]
    exact List.map_congr_left fun k hk => cK_ix k (hlt k hk)
  have hr := run_chks (ks.map cK) [] baseX [] hcs (by rw [hix]; exact hnd) (fun c _ => by simp)
  have hrule : ruleP ((1, ruleW) :: (ts ++ [(3, [59])])) = .ok (ks.foldl (fun r k => (cK k).f r) baseX, []) := by
    rw [← hts]
    have e2 : ks.flatMap (fun k => (cK k).toks) = (ks.map cK).flatMap Chk.toks := by rw [List.flatMap_map]
    have g1 : ∀ (t : Tk) (ts : List Tk), t.1 = 1 ∧ t.2 = ruleW → ruleP (t :: ts) = nameP ts := fun t ts ht => by simp only [ruleP]; rw [if_pos ht]
    have g2 : ∀ (t : Tk) (ts : List Tk), t.1 = 1 → nameP (t :: ts) = (match num1 ts with
      | .ok (v, ts') => (match clausesA [] { noRul with name := t.2, pri := (v : Int) } ts' with
        | .ok x => shutR x
        | .error e => .error e)
      | .error e => .error e) := fun t ts ht => by simp only [nameP]; exact (if_pos ht).trans rfl
    rw [g1 _ _ ⟨rfl, rfl⟩]
    show nameP ((1, [120]) :: ((2, [53]) :: (ks.flatMap (fun k => (cK k).toks) ++ [(3, [59])]))) = _
    rw [g2 _ _ rfl]
    have hn : num1 ((2, [53]) :: (ks.flatMap (fun k => (cK k).toks) ++ [(3, [59])])) = .ok (5, ks.flatMap (fun k => (cK k).toks) ++ [(3, [59])]) := rfl
    rw [hn]
    show (match clausesA [] baseX (ks.flatMap (fun k => (cK k).toks) ++ [(3, [59])]) with
        | .ok x => shutR x
        | .error e => .error e) = _
    rw [e2, hr]
    simp only [List.nil_append]
    have hm : ∀ i, i ∈ ks → wordL i ∈ (ks.map cK).map (fun c => wordL c.i) := by
      intro i hi
      rw [List.map_map]
      exact List.mem_map.2 ⟨i, hi, by show wordL (cK i).i = _; rw [cK_ix i (hlt i hi)]⟩
    simp only [shutR]
    rw [if_pos ⟨trivial, hm 11 h11, hm 12 h12⟩, List.foldl_map]
  have hk : rulesA (Kd l 0) = .ok [((l.map era).length, ks.foldl (fun r k => (cK k).f r) baseX)] := by
    rw [show Kd l 0 = l.map era by simp [Kd], hl2, rulesA_cons, hrule]
    rfl
  rw [parse_ok hs hk]
  rfl
theorem fold_perm {ks ks' : List Nat} (hp : ks.Perm ks') (hlt : ∀ k ∈ ks, k < 13) (r : Rul) : ks.foldl (fun r k => (cK k).f r) r = ks'.foldl (fun r k => (cK k).f r) r :=
  hp.foldl_eq' (fun x hx y hy z => cK_comm y x z (hlt y hy) (hlt x hx)) r
end Go.Proofs.YtcmkcloapenpnaaDoor
