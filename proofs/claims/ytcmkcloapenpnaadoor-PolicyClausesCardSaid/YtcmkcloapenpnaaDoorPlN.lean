/- Rules written and read again: Parse of Show. -/
import Derived.Test.YtcmkcloapenpnaaDoorPlM
namespace Go.Proofs.YtcmkcloapenpnaaDoor
open Go.RowKit
set_option maxHeartbeats 3200000
set_option maxRecDepth 100000
theorem pref_tk (a : Nat) (n : Int) : TkOk (2, showS a n) := by
  have dg : ∀ m : Nat, ∀ x ∈ decL m, isNm x = true := fun m x hx => by
    have := decL_digs m x hx
    unfold isNm
    rw [show isDg x = true from this]; rfl
  refine .inr ⟨rfl, ?_, fun x hx => ?_⟩
  · unfold showS
    cases h : decL (maskS a (cut32 n) / 16777216) with
    | nil => exact absurd h (decL_ne _)
    | cons c r =>
      refine ⟨c, _, rfl, ?_⟩
      exact decL_digs _ c (by rw [h]; simp)
  · simp only [showS, List.mem_append, List.mem_singleton] at hx
    rcases hx with (((((((hx | rfl) | hx) | rfl) | hx) | rfl) | hx) | rfl) | hx
    · exact dg _ x hx
    · decide
    · exact dg _ x hx
    · decide
    · exact dg _ x hx
    · decide
    · exact dg _ x hx
    · decide
    · exact dg _ x hx
theorem opt_tk {b : Bool} {c : Chk} (h : ∀ t ∈ c.toks, TkOk t) : ∀ t ∈ (opt b c).flatMap Chk.toks, TkOk t := by
  intro t ht
  unfold opt at ht
  split at ht
  · rw [List.flatMap_cons, List.flatMap_nil, List.append_nil] at ht
    exact h t ht
  · simp at ht
theorem chN_tk {i : Nat} {v : Int} {g : Rul → Nat → Rul} (hi : i < 13) : ∀ t ∈ (chN i v g).toks, TkOk t := by
  intro t ht
  simp only [Chk.toks, chN, List.mem_cons, List.not_mem_nil, or_false] at ht
  rcases ht with rfl | rfl
  · exact word_tk i hi
  · exact num_tk _
theorem chP_tk {i : Nat} {a : Nat} {n : Int} {g : Rul → Nat → Nat → Rul} (hi : i < 13) : ∀ t ∈ (chP i a n g).toks, TkOk t := by
  intro t ht
  simp only [Chk.toks, chP, List.mem_cons, List.not_mem_nil, or_false] at ht
  rcases ht with rfl | rfl
  · exact word_tk i hi
  · exact pref_tk _ _
theorem chL_tk {i : Nat} {L : List Int} {g : Rul → List Int → Rul} (hi : i < 13) : ∀ t ∈ (chL i L g).toks, TkOk t := by
  intro t ht
  simp only [Chk.toks, chL, List.mem_cons, List.mem_map] at ht
  rcases ht with rfl | ⟨v, _, rfl⟩
  · exact word_tk i hi
  · exact num_tk _
theorem chks_tk (r : Rul) : ∀ t ∈ (chks r).flatMap Chk.toks, TkOk t := by
  intro t ht
  unfold chks at ht
  simp only [List.flatMap_append, List.mem_append] at ht
  rcases ht with (((((((((((ht | ht) | ht) | ht) | ht) | ht) | ht) | ht) | ht) | ht) | ht) | ht)
  · simp only [List.flatMap_cons, List.flatMap_nil, List.append_nil, List.mem_append] at ht
    rcases ht with ht | ht
    · exact chN_tk (by decide) t ht
    · exact chN_tk (by decide) t ht
  · exact opt_tk (chL_tk (by decide)) t ht
  · exact opt_tk (chL_tk (by decide)) t ht
  · exact opt_tk (chL_tk (by decide)) t ht
  · exact opt_tk (chL_tk (by decide)) t ht
  · exact opt_tk (chN_tk (by decide)) t ht
  · exact opt_tk (chP_tk (by decide)) t ht
  · exact opt_tk (chP_tk (by decide)) t ht
  · exact opt_tk (chN_tk (by decide)) t ht
  · exact opt_tk (chN_tk (by decide)) t ht
  · exact opt_tk (chN_tk (by decide)) t ht
  · refine opt_tk (fun t ht => ?_) t ht
    simp only [Chk.toks, chS, List.mem_cons, List.not_mem_nil, or_false] at ht
    subst ht
    exact word_tk 10 (by decide)
theorem rest_tk {r : Rul} (h : Named r) : ∀ t ∈ restR r, TkOk t := by
  intro t ht
  simp only [restR, List.mem_cons] at ht
  rcases ht with rfl | rfl | ht
  · exact .inl ⟨rfl, h.1, h.2⟩
  · exact num_tk _
  · exact chks_tk r t ht
theorem rule_tk : TkOk (1, ruleW) := .inl ⟨rfl, ⟨_, _, rfl, by decide⟩, by decide⟩
/-- A rule as it is shown is read. -/
theorem ruleP_show {r : Rul} (h : NumOk r) (rest : List Tk) : ruleP ((1, ruleW) :: restR r ++ (3, [59]) :: rest) = .ok (r, rest) := by
  have h1 := run_chks (chks r) [] (baseR r) rest (chks_ok h) (chks_nodup r) (fun c _ => by simp)
  have hp := numT_dec h.pri
  have hpr : ((r.pri.toNat : Nat) : Int) = r.pri := Int.toNat_of_nonneg h.pri.1
  have g1 : ∀ (t : Tk) (ts : List Tk), t.1 = 1 ∧ t.2 = ruleW → ruleP (t :: ts) = nameP ts := fun t ts ht => by simp only [ruleP]; rw [if_pos ht]
  have g2 : ∀ (t : Tk) (ts : List Tk), t.1 = 1 → nameP (t :: ts) = (match num1 ts with
      | .ok (v, ts') => (match clausesA [] { noRul with name := t.2, pri := (v : Int) } ts' with
        | .ok x => shutR x
        | .error e => .error e)
      | .error e => .error e) := fun t ts ht => by simp only [nameP]; exact (if_pos ht).trans rfl
  rw [List.cons_append, g1 _ _ ⟨rfl, rfl⟩]
  unfold restR
  rw [List.cons_append, g2 _ _ rfl]
  show (match num1 ((2, decL r.pri.toNat) :: ((chks r).flatMap Chk.toks ++ (3, [59]) :: rest)) with
      | .ok (v, ts') => (match clausesA [] { noRul with name := r.name, pri := (v : Int) } ts' with
        | .ok x => shutR x
        | .error e => .error e)
      | .error e => .error e) = _
  simp only [num1, hp]
  rw [hpr, show ({ noRul with name := r.name, pri := r.pri } : Rul) = baseR r from rfl, h1]
  simp only [List.nil_append]
  rw [chks_fold h]
  have hm : ∀ i, i ∈ [11, 12] → wordL i ∈ (chks r).map (fun c => wordL c.i) := by
    intro i hi
    have : ∃ c ∈ chks r, c.i = i := by
      simp only [List.mem_cons, List.not_mem_nil, or_false] at hi
      rcases hi with rfl | rfl
      · exact ⟨chN 11 r.x.frm setFrm, by unfold chks; simp, rfl⟩
      · exact ⟨chN 12 r.x.too setToo, by unfold chks; simp, rfl⟩
    obtain ⟨c, hc, rfl⟩ := this
    exact List.mem_map.2 ⟨c, hc, rfl⟩
  show shutR ((chks r).map (fun c => wordL c.i), r, (3, [59]) :: rest) = _
  simp only [shutR]
  rw [if_pos ⟨trivial, hm 11 (by simp), hm 12 (by simp)⟩]
def tksR (r : Rul) : List Tk := (1, ruleW) :: restR r ++ [(3, [59])]
theorem scan_show : ∀ (L : List Rul) (i : Nat), (∀ r ∈ L, Named r) → (scL i (showAll L)).1.map era = L.flatMap tksR ∧ (scL i (showAll L)).2 = none := by
  intro L
  induction L with
  | nil => intro i _; exact ⟨by unfold showAll; rw [List.flatMap_nil]; unfold scL; rw [scan_nil]; rfl, by unfold showAll; rw [List.flatMap_nil]; unfold scL; rw [scan_nil]⟩
  | cons r L ih =>
    intro i h
    obtain ⟨j, h1, h2⟩ := scL_line (1, ruleW) (restR r) i (showAll L) rule_tk (rest_tk (h r (by simp)))
    obtain ⟨h3, h4⟩ := ih j (fun q hq => h q (by simp [hq]))
    have e : showAll (r :: L) = lineL (1, ruleW) (restR r) ++ showAll L := by unfold showAll; rw [List.flatMap_cons, show_line]
    rw [e]
    refine ⟨?_, h2.trans h4⟩
    rw [h1, h3, List.flatMap_cons]
    simp [tksR]
theorem rules_show : ∀ (L : List Rul), (∀ r ∈ L, NumOk r) → ∃ rs, rulesA (L.flatMap tksR) = .ok rs ∧ rs.map (·.2) = L := by
  intro L
  induction L with
  | nil => intro _; exact ⟨[], rfl, rfl⟩
  | cons r L ih =>
    intro h
    obtain ⟨rs, h1, h2⟩ := ih (fun q hq => h q (by simp [hq]))
    have e : (r :: L).flatMap tksR = (1, ruleW) :: (restR r ++ (3, [59]) :: L.flatMap tksR) := by simp [tksR]
    have h3 := ruleP_show (h r (by simp)) (L.flatMap tksR)
    rw [List.cons_append] at h3
    rw [e, rulesA_cons, h3]
    simp only
    rw [h1]
    exact ⟨_, rfl, by rw [List.map_cons, h2]⟩
/-- What Show tells is read. -/
theorem parse_show {L : List Rul} (hn : ∀ r ∈ L, Named r) (h : ∀ r ∈ L, NumOk r) (h20 : L.length ≤ 20) (hl : (showAll L).length ≤ 10000) : parseS (showAll L) = (L, -1, 0) := by
  obtain ⟨h1, h2⟩ := scan_show L 0 hn
  obtain ⟨l, hl1⟩ : ∃ l, (scL 0 (showAll L)).1 = l := ⟨_, rfl⟩
  have hs : splitS (showAll L) = (l, -1, 0) := by
    unfold splitS
    rw [if_neg (by omega)]
    have h3 : scanAt (showAll L) 0 = (l, none) := by
      unfold scanAt
      rw [List.drop_zero]
      show scL 0 (showAll L) = _
      rw [← hl1, ← h2]
    rw [h3]
  obtain ⟨rs, h3, h4⟩ := rules_show L h
  have hr : rulesA (Kd l 0) = .ok rs := by
    rw [show Kd l 0 = l.map era by simp [Kd], ← hl1, h1, h3]
  rw [parse_ok hs hr]
  have hlen : rs.length = L.length := by rw [← h4, List.length_map]
  rw [if_neg (by omega), h4]
end Go.Proofs.YtcmkcloapenpnaaDoor
