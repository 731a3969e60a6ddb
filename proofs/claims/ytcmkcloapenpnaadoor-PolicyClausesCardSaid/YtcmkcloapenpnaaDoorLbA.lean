/- Cut out of LaA LaI LaC LaD LaE LaF LaG. -/
import Derived.Test.YtcmkcloapenpnaaDoorPlF
import Derived.Test.YtcmkcloapenpnaaDoorPnC
import Derived.Test.YtcmkcloapenpnaaDoorPnG
import Derived.BigQuiet
import Derived.Deep.RegionHeld3
import Derived.Deep.RegionLaw
import Derived.Deep.RegionWith
namespace Go.Proofs.YtcmkcloapenpnaaDoor
open Go.RowKit
set_option maxHeartbeats 12800000
set_option maxRecDepth 100000
def textAt (l : List Tok) (k : Nat) : List UInt8 := match l[k]? with
  | some t => t.text
  | none => []
def kindAt (l : List Tok) (k : Nat) : Int := match l[k]? with
  | some t => t.kind
  | none => 0
theorem textAt_some {l : List Tok} {k : Nat} {t : Tok} (h : l[k]? = some t) : textAt l k = t.text := by unfold textAt; rw [h]
theorem textAt_none {l : List Tok} {k : Nat} (h : l[k]? = none) : textAt l k = [] := by unfold textAt; rw [h]
theorem kindAt_some {l : List Tok} {k : Nat} {t : Tok} (h : l[k]? = some t) : kindAt l k = t.kind := by unfold kindAt; rw [h]
theorem textAt_lt {l : List Tok} {k : Nat} (h : textAt l k ≠ []) : k < l.length := by
  by_cases hk : k < l.length
  · exact hk
  · exact absurd (textAt_none (List.getElem?_eq_none (by omega))) h
/-- A digit is no letter. -/
theorem dg_not_lt {c : UInt8} (h : isDg c = true) : isLt c = false := by
  unfold isDg at h
  simp only [Bool.and_eq_true, decide_eq_true_eq] at h
  unfold isLt
  rw [decide_eq_false (by omega : ¬ 97 ≤ c.toNat)]; rfl
theorem tok_num {t : Tok} (h : TokOk t) {n : Nat} {r : List UInt8} (ht : t.text = decL n ++ r) : t.kind = 2 := by
  obtain ⟨c, q, hc⟩ : ∃ c q, decL n = c :: q := by
    cases h : decL n with
    | nil => exact absurd h (decL_ne n)
    | cons c r => exact ⟨c, r, rfl⟩
  have hd := decL_digs n c (by rw [hc]; simp)
  have hg : isDg c = true := hd
  rw [hc] at ht
  rcases h with ⟨_, ⟨c', r', h2, h3⟩, _⟩ | ⟨h1, _⟩ | ⟨_, h2⟩
  · rw [ht] at h2
    simp only [List.cons_append, List.cons.injEq] at h2
    rw [← h2.1, dg_not_lt hg] at h3; cases h3
  · exact h1
  · rw [ht] at h2
    simp only [List.cons_append, List.cons.injEq] at h2
    rw [h2.1] at hg
    exact absurd hg (by decide)
theorem tok_numS {t : Tok} (h : TokOk t) {most : Nat} (hn : 0 ≤ numS t.text most) : t.kind = 2 := by
  obtain ⟨n, _, _, h3⟩ := numS_inv hn
  exact tok_num h (n := n) (r := []) (by rw [List.append_nil]; exact h3)
theorem tok_pref {t : Tok} (h : TokOk t) {p : Nat × Nat} (hp : readS t.text = some p) : t.kind = 2 := by
  obtain ⟨a, b, c, d, n, _, _, _, _, _, h3⟩ := readS_some hp
  exact tok_num h (n := a) h3
theorem wordL_first : ∀ i, i < 13 → ∃ c r, wordL i = c :: r ∧ isLt c = true := by
  intro i hi
  have : ∀ i, i < 13 → (match wordL i with | c :: _ => isLt c | [] => false) = true := by decide
  have h := this i hi
  cases hw : wordL i with
  | nil => rw [hw] at h; cases h
  | cons c r => rw [hw] at h; exact ⟨c, r, rfl, h⟩
theorem wordIx_of {i : Nat} (hi : i < 13) : wordIx (wordL i) = i := by
  have : ∀ i, i < 13 → wordIx (wordL i) = i := by decide
  exact this i hi
theorem wordIx_ne {w : List UInt8} (h : wordIx w = 13) : ∀ i, i < 13 → w ≠ wordL i := by
  intro i hi he
  rw [he, wordIx_of hi] at h
  omega
theorem tok_word {t : Tok} (h : TokOk t) (hw : wordIx t.text ≠ 13) : t.kind = 1 := by
  obtain ⟨h1, h2⟩ := wordIx_lt hw
  obtain ⟨c, r, h3, h4⟩ := wordL_first _ h1
  rw [h2] at h3
  rcases h with ⟨h5, _⟩ | ⟨_, ⟨c', r', h6, h7⟩, _⟩ | ⟨_, h6⟩
  · exact h5
  · rw [h3] at h6
    simp only [List.cons.injEq] at h6
    rw [← h6.1] at h7
    rw [dg_not_lt h7] at h4; cases h4
  · rw [h3] at h6
    simp only [List.cons.injEq] at h6
    rw [h6.1] at h4
    exact absurd h4 (by decide)
theorem tok_rule {t : Tok} (h : TokOk t) (hw : t.text = ruleW) : t.kind = 1 := by
  rcases h with ⟨h5, _⟩ | ⟨_, ⟨c', r', h6, h7⟩, _⟩ | ⟨_, h6⟩
  · exact h5
  · rw [hw] at h6
    simp only [ruleW, List.cons.injEq] at h6
    rw [← h6.1] at h7
    exact absurd h7 (by decide)
  · rw [hw] at h6; exact absurd h6 (by decide)
theorem tok_end {t : Tok} (h : TokOk t) : t.text = [59] ↔ t.kind = 3 := by
  rcases h with ⟨h5, ⟨c, r, h6, h7⟩, _⟩ | ⟨h5, ⟨c, r, h6, h7⟩, _⟩ | ⟨h5, h6⟩
  · constructor
    · intro he
      rw [he] at h6
      simp only [List.cons.injEq] at h6
      rw [← h6.1] at h7
      exact absurd h7 (by decide)
    · intro he; omega
  · constructor
    · intro he
      rw [he] at h6
      simp only [List.cons.injEq] at h6
      rw [← h6.1] at h7
      exact absurd h7 (by decide)
    · intro he; omega
  · exact ⟨fun _ => h5, fun _ => h6⟩
theorem tok_ne {t : Tok} (h : TokOk t) : t.text ≠ [] := by
  rcases h with ⟨_, ⟨c, r, h6, _⟩, _⟩ | ⟨_, ⟨c, r, h6, _⟩, _⟩ | ⟨_, h6⟩ <;> rw [h6] <;> simp
/-- All tokens are as Split tells them. -/
def AllOk (l : List Tok) : Prop := ∀ t ∈ l, TokOk t
theorem AllOk.at {l : List Tok} (h : AllOk l) {k : Nat} {t : Tok} (ht : l[k]? = some t) : TokOk t := h t (List.mem_of_getElem? ht)
/-- What a number tells by its text alone. -/
theorem num_dev {l : List Tok} (h : AllOk l) (k : Nat) : (∃ v : Nat, numAt l k = some v ∧ numR (textAt l k) 2147483647 = .tuple #[.int .i64 (v : Int), .bool true] ∧ k < l.length) ∨ (numAt l k = none ∧ numR (textAt l k) 2147483647 = .tuple #[.int .i64 0, .bool false]) := by
  cases ht : l[k]? with
  | none =>
    right
    rw [textAt_none ht]
    unfold numAt
    rw [ht]
    refine ⟨rfl, ?_⟩
    unfold numR
    rw [if_pos (numS_nil _)]
  | some t =>
    rw [textAt_some ht]
    unfold numAt numR
    rw [ht]
    by_cases hn : 0 ≤ numS t.text 2147483647
    · left
      obtain ⟨v, hv⟩ := Int.eq_ofNat_of_zero_le hn
      refine ⟨v, ?_, ?_, (List.getElem?_eq_some_iff.1 ht).1⟩
      · show numT (era t) = some v
        unfold numT
        rw [if_pos ⟨tok_numS (h.at ht) hn, hn⟩]
        show some (numS t.text 2147483647).toNat = _
        rw [hv]; rfl
      · rw [if_neg (by omega), hv]
    · right
      refine ⟨?_, if_pos (by omega)⟩
      show numT (era t) = none
      unfold numT
      exact if_neg (fun hh => hn hh.2)
def prefAt (l : List Tok) (k : Nat) : Option (Nat × Nat) := readS (textAt l k)
theorem readS_nil : readS [] = none := by
  cases h : readS [] with
  | none => rfl
  | some p =>
    obtain ⟨a, b, c, d, n, _, _, _, _, _, h3⟩ := readS_some h
    have := congrArg List.length h3
    simp [prefL] at this
theorem pref_dev {l : List Tok} (h : AllOk l) (k : Nat) : (∃ p, prefAt l k = some p ∧ pref1 (Kd l k) = .ok (p, Kd l (k + 1)) ∧ k < l.length) ∨ (prefAt l k = none ∧ pref1 (Kd l k) = .error (Kd l k)) := by
  unfold prefAt
  cases ht : l[k]? with
  | none =>
    right
    rw [textAt_none ht, readS_nil, Kd_none (List.getElem?_eq_none_iff.1 ht)]
    exact ⟨rfl, rfl⟩
  | some t =>
    rw [textAt_some ht, Kd_some ht]
    cases hp : readS t.text with
    | some p =>
      left
      refine ⟨p, rfl, ?_, (List.getElem?_eq_some_iff.1 ht).1⟩
      show (if (era t).1 = 2 then _ else _) = _
      rw [if_pos (show (era t).1 = 2 from tok_pref (h.at ht) hp)]
      show (match readS t.text with | some p => _ | none => _) = _
      rw [hp]
    | none =>
      right
      refine ⟨rfl, ?_⟩
      show (if (era t).1 = 2 then _ else _) = _
      by_cases hk : (era t).1 = 2
      · rw [if_pos hk]
        show (match readS t.text with | some p => _ | none => _) = _
        rw [hp]
      · rw [if_neg hk]
theorem rule_b0 {l : List Tok} {k : Nat} (h : textAt l k ≠ ruleW) : ruleP (Kd l k) = .error (Kd l k) := by
  cases ht : l[k]? with
  | none => rw [Kd_none (List.getElem?_eq_none_iff.1 ht)]; rfl
  | some t =>
    rw [textAt_some ht] at h
    rw [Kd_some ht]
    exact if_neg (fun hh => h hh.2)
theorem rule_b1 {l : List Tok} (ho : AllOk l) {k : Nat} (h : textAt l k = ruleW) : ruleP (Kd l k) = nameP (Kd l (k + 1)) := by
  cases ht : l[k]? with
  | none => rw [textAt_none ht] at h; cases h
  | some t =>
    rw [textAt_some ht] at h
    rw [Kd_some ht]
    exact if_pos ⟨tok_rule (ho.at ht) h, h⟩
theorem rule_b2 {l : List Tok} {k : Nat} (h : kindAt l k ≠ 1) : nameP (Kd l k) = .error (Kd l k) := by
  cases ht : l[k]? with
  | none => rw [Kd_none (List.getElem?_eq_none_iff.1 ht)]; rfl
  | some t =>
    rw [kindAt_some ht] at h
    rw [Kd_some ht]
    exact if_neg h
theorem rule_b3 {l : List Tok} {k : Nat} (h : kindAt l k = 1) : nameP (Kd l k) = match num1 (Kd l (k + 1)) with
    | .ok (v, ts') => goR (clausesA [] { noRul with name := textAt l k, pri := (v : Int) } ts')
    | .error e => .error e := by
  cases ht : l[k]? with
  | none => unfold kindAt at h; rw [ht] at h; exact absurd h (by decide)
  | some t =>
    rw [kindAt_some ht] at h
    rw [Kd_some ht, textAt_some ht]
    show (if (era t).1 = 1 then _ else _) = _
    rw [if_pos (show (era t).1 = 1 from h)]
    cases num1 (Kd l (k + 1)) with
    | error e => rfl
    | ok x =>
      obtain ⟨v, ts'⟩ := x
      show (match clausesA [] { noRul with name := t.text, pri := (v : Int) } ts' with | .ok x => shutR x | .error e => .error e) = goR (clausesA [] { noRul with name := t.text, pri := (v : Int) } ts')
      cases clausesA [] { noRul with name := t.text, pri := (v : Int) } ts' <;> rfl
/-- What a rule's reading is worth while it goes on: good so far, or stuck at a number that is none. -/
def RGood (l : List Tok) (k : Nat) (H : List (List UInt8)) (r : Rul) (k' : Nat) : Prop :=
  ruleP (Kd l k) = goR (clausesA H r (Kd l k')) ∨ (ruleP (Kd l k) = .error (Kd l k') ∧ isS l k' 2 = true)
theorem isS_kind {l : List Tok} {k : Nat} {t : Tok} (ht : l[k]? = some t) (kd : Int) : isS l k kd = (t.kind == kd) := by unfold isS; rw [ht]
theorem rule_stop {l : List Tok} (ho : AllOk l) {k k' : Nat} {H : List (List UInt8)} {r : Rul} (h : RGood l k H r k') (h1 : textAt l k' ≠ [59]) (h2 : textAt l k' ∈ H ∨ wordIx (textAt l k') = 13) : ruleP (Kd l k) = .error (Kd l k') := by
  rcases h with h | ⟨h, _⟩
  · rw [h]
    cases ht : l[k']? with
    | none => rw [Kd_none (List.getElem?_eq_none_iff.1 ht)]; rfl
    | some t =>
      rw [textAt_some ht] at h1 h2
      rw [Kd_some ht, clausesA_cons]
      by_cases hk : (era t).1 = 1
      · rw [if_pos hk, if_pos (show (era t).2 ∈ H ∨ wordIx (era t).2 = 13 from h2)]; rfl
      · rw [if_neg hk]
        show (if (era t).1 = 3 ∧ _ then _ else _) = _
        exact if_neg (fun hh => h1 ((tok_end (ho.at ht)).2 hh.1))
  · exact h
theorem rule_more {l : List Tok} (ho : AllOk l) {k k' : Nat} {H : List (List UInt8)} {r : Rul} (h : RGood l k H r k') (h1 : textAt l k' ∉ H) (h2 : wordIx (textAt l k') ≠ 13) : k' < l.length ∧ ruleP (Kd l k) = match clauseI (wordIx (textAt l k')) r (Kd l (k' + 1)) with
    | .ok (r', ts') => goR (clausesA (H ++ [textAt l k']) r' ts')
    | .error e => .error e := by
  cases ht : l[k']? with
  | none => rw [textAt_none ht] at h2; exact absurd (by decide) h2
  | some t =>
    rw [textAt_some ht] at h1 h2 ⊢
    have hk := tok_word (ho.at ht) h2
    refine ⟨(List.getElem?_eq_some_iff.1 ht).1, ?_⟩
    rcases h with h | ⟨_, h3⟩
    · rw [h, Kd_some ht, clausesA_cons, if_pos (show (era t).1 = 1 from hk)]
      show goR (if t.text ∈ H ∨ wordIx t.text = 13 then _ else match clauseI (wordIx t.text) r (Kd l (k' + 1)) with | .ok (r', ts') => clausesA (H ++ [t.text]) r' ts' | .error e => .error e) = _
      rw [if_neg (fun e => e.elim h1 h2)]
      cases clauseI (wordIx t.text) r (Kd l (k' + 1)) with
      | error e => rfl
      | ok x => rfl
    · rw [isS_kind ht, hk] at h3
      exact absurd h3 (by decide)
theorem rule_endG {l : List Tok} (ho : AllOk l) {k k' : Nat} {H : List (List UInt8)} {r : Rul} (h : RGood l k H r k') (h1 : textAt l k' = [59]) : k' < l.length ∧ (wordL 11 ∈ H → wordL 12 ∈ H → ruleP (Kd l k) = .ok (r, Kd l (k' + 1))) ∧ (¬(wordL 11 ∈ H ∧ wordL 12 ∈ H) → ruleP (Kd l k) = .error (Kd l k')) := by
  cases ht : l[k']? with
  | none => rw [textAt_none ht] at h1; cases h1
  | some t =>
    rw [textAt_some ht] at h1
    have hk := (tok_end (ho.at ht)).1 h1
    refine ⟨(List.getElem?_eq_some_iff.1 ht).1, ?_⟩
    rcases h with h | ⟨_, h3⟩
    · have hs := rule_shut h (by rw [isS_kind ht, hk]; rfl)
      have h3 : isS l k' 3 = true := by rw [isS_kind ht, hk]; rfl
      exact ⟨fun a b => hs.1 h3 a b, fun hn => hs.2 (fun hh => hn hh.2)⟩
    · rw [isS_kind ht, hk] at h3
      exact absurd h3 (by decide)
/-- Errors go on too. -/
theorem num1_err {ts t : List Tk} (h : num1 ts = .error t) : t.length ≤ ts.length := by
  cases ts with
  | nil => cases h; exact Nat.le_refl _
  | cons a r =>
    simp only [num1] at h
    split at h
    · cases h
    · cases h; exact Nat.le_refl _
theorem more_err : ∀ {ts t : List Tk}, more ts = .error t → t.length ≤ ts.length := by
  intro ts
  induction ts with
  | nil => intro t h; cases h
  | cons a r ih =>
    intro t h
    unfold more at h
    split at h
    · split at h
      · split at h
        · cases h
        · rename_i h3
          cases h
          exact Nat.le_succ_of_le (ih h3)
      · cases h; exact Nat.le_refl _
    · cases h
theorem nums1_err {ts t : List Tk} (h : nums1 ts = .error t) : t.length ≤ ts.length := by
  unfold nums1 at h
  split at h
  · rename_i h1
    split at h
    · cases h
    · rename_i h2
      cases h
      have := num1_len h1
      have := more_err h2
      omega
  · rename_i h1
    cases h
    exact num1_err h1
theorem pref1_err {ts t : List Tk} (h : pref1 ts = .error t) : t.length ≤ ts.length := by
  cases ts with
  | nil => cases h; exact Nat.le_refl _
  | cons a r =>
    simp only [pref1] at h
    split at h
    · split at h
      · cases h
      · cases h; exact Nat.le_refl _
    · cases h; exact Nat.le_refl _
theorem clauseI_errL {i : Nat} {r : Rul} {ts t : List Tk} (h : clauseI i r ts = .error t) : t.length ≤ ts.length := by
  have hN : ∀ {f : Rul → Nat → Rul}, withN f r ts = .error t → t.length ≤ ts.length := by
    intro f h
    unfold withN at h
    split at h
    · cases h
    · rename_i h1; cases h; exact num1_err h1
  have hL : ∀ {f : Rul → List Int → Rul}, withL f r ts = .error t → t.length ≤ ts.length := by
    intro f h
    unfold withL at h
    split at h
    · cases h
    · rename_i h1; cases h; exact nums1_err h1
  have hP : ∀ {f : Rul → Nat → Nat → Rul}, withP f r ts = .error t → t.length ≤ ts.length := by
    intro f h
    unfold withP at h
    split at h
    · cases h
    · rename_i h1; cases h; exact pref1_err h1
  unfold clauseI at h
  split at h <;> first | exact hL h | exact hN h | exact hP h | cases h
theorem clauseI_err {l : List Tok} {i k k' : Nat} {r : Rul} (h : clauseI i r (Kd l k) = .error (Kd l k')) (hk : k ≤ l.length) (hk' : k' ≤ l.length) : k ≤ k' := by
  have := clauseI_errL h
  rw [Kd_len, Kd_len] at this
  omega
/-- A reader: the world in which Parse began, its box, the tokens, the text's length. -/
structure Rdr where
  w0 : World
  BP : Nat
  A : Option Addr
  n : Nat
  c : Nat
  l : List Tok
  E : Nat
def posE (E : Nat) (l : List Tok) (k : Nat) : Int := match l[k]? with
  | some t => t.pos
  | none => (E : Int)
/-- It stands ahead of token k. -/
structure At (X : Rdr) (k : Nat) (w : World) : Prop where
  lib : Ld X.w0
  bel : Below X.w0.heap.size X.w0 w
  low : X.w0.heap.size ≤ X.BP
  box : ∃ A' c', w.heap[X.BP]? = some (.cells #[.slice A' (X.n - k) c', .int .i64 (X.E : Int)] 72 (0, 0)) ∧ (k < X.n → ∃ g, X.A = some ⟨g, 0, none⟩ ∧ A' = some ⟨g, k * 3, none⟩ ∧ X.n - k ≤ c')
  tok : w.ownsRow 0 90 3 (.slice X.A X.n X.c) X.n (tcells X.l)
  few : X.n ≤ 10000
  sml : ∀ t ∈ X.l, t.text.length ≤ 10000
  in_ : k ≤ X.n
  ok : AllOk X.l
theorem At.ld {X : Rdr} {k : Nat} {w : World} (h : At X k w) : Ld w := h.lib.on h.bel
theorem At.lt {X : Rdr} {k : Nat} {w : World} (h : At X k w) : X.BP < w.heap.size := by
  obtain ⟨A', c', h1, _⟩ := h.box
  exact pst_lt h1
theorem At.len {X : Rdr} {k : Nat} {w : World} (h : At X k w) : X.l.length = X.n := by
  have := h.tok.1; rw [tcells_len] at this; omega
theorem At.on {X : Rdr} {k : Nat} {w w' : World} (h : At X k w) (hb : Below w.heap.size w w') : At X k w' := by
  obtain ⟨A', c', h1, h2⟩ := h.box
  exact ⟨h.lib, h.bel.trans (hb.mono h.bel.size), h.low, ⟨A', c', box_below h1 hb (pst_lt h1), h2⟩, own_below h.tok hb, h.few, h.sml, h.in_, h.ok⟩
theorem At.other {X : Rdr} {k G : Nat} {w w' : World} {cs : Array Value} {t : TypeId} {fz : Nat × Nat} (h : At X k w) (hb : But G w w') (hG : w.heap[G]? = some (.cells cs t fz)) (hlow : X.w0.heap.size ≤ G) (h1 : 72 ≠ t) (h2 : 90 ≠ t) : At X k w' := by
  obtain ⟨A', c', hx, h3⟩ := h.box
  refine ⟨h.lib, h.bel.trans (hb.below hlow h.bel.size), h.low, ⟨A', c', (hb.block X.BP h.lt (fun e => ?_)).trans hx, h3⟩, own_but h.tok hb hG h2, h.few, h.sml, h.in_, h.ok⟩
  subst e
  rw [hG] at hx
  simp at hx
  exact h1 hx.2.1.symm
theorem At.turn {X : Rdr} {k k' : Nat} {w w' : World} (h : At X k w) (hb : But X.BP w w')
    (hx : ∃ A' c', w'.heap[X.BP]? = some (.cells #[.slice A' (X.n - k') c', .int .i64 (X.E : Int)] 72 (0, 0)) ∧ (k' < X.n → ∃ g, X.A = some ⟨g, 0, none⟩ ∧ A' = some ⟨g, k' * 3, none⟩ ∧ X.n - k' ≤ c')) (hk : k' ≤ X.n) : At X k' w' := by
  obtain ⟨A', c', h1, _⟩ := h.box
  exact ⟨h.lib, h.bel.trans (hb.below h.low h.bel.size), h.low, hx, own_but h.tok hb h1 (by decide), h.few, h.sml, hk, h.ok⟩
theorem At.drewN {X : Rdr} {k : Nat} {w : World} (h : At X k w) (j : Nat) : At X k (w.drewN j) := h.on (below_drewN (Below.refl _ _))
/-- Where the next token lies. -/
theorem At.cell {X : Rdr} {k : Nat} {w : World} (h : At X k w) {t : Tok} (ht : X.l[k]? = some t) :
    ∃ g c', k < X.n ∧ X.n - k ≤ c' ∧ X.A = some ⟨g, 0, none⟩ ∧ w.heap[X.BP]? = some (.cells #[.slice (some ⟨g, k * 3, none⟩) (X.n - k) c', .int .i64 (X.E : Int)] 72 (0, 0)) ∧ w.cell? ⟨g, k * 3, none⟩ = some (.int .i64 t.kind) ∧ w.cell? ⟨g, k * 3 + 1, none⟩ = some (.int .i64 t.pos) ∧ w.cell? ⟨g, k * 3 + 2, none⟩ = some (.string (txt t.text)) := by
  have hk : k < X.n := by rw [← h.len]; exact (List.getElem?_eq_some_iff.1 ht).1
  obtain ⟨A', c', h1, h2⟩ := h.box
  obtain ⟨g, hA, rfl, hc⟩ := h2 hk
  obtain ⟨k1, k2, k3⟩ := tcells_at ht
  have hg : (Value.slice X.A X.n X.c).ownBlock = some g := by rw [hA]; rfl
  have q1 := h.tok.cells (g := g) (by rw [hA]; rfl) _ _ k1
  have q2 := h.tok.cells (g := g) (by rw [hA]; rfl) _ _ k2
  have q3 := h.tok.cells (g := g) (by rw [hA]; rfl) _ _ k3
  rw [Go.WideShapes.add_plain, Nat.zero_add] at q1 q2 q3
  exact ⟨g, c', hk, hc, hA, h1, q1, q2, q3⟩
theorem ahead_any (X : Rdr) (k : Nat) (w : World) (h : At X k w) :
    Calls Tryd.prog 52 #[.pointer (some ⟨X.BP, 0, none⟩)] w fun e w' => e = .returned (.agg #[.int .i64 (kindAt X.l k), .int .i64 (posE X.E X.l k), .string (txt (textAt X.l k))]) ∧ Below w.heap.size w w' := by
  have hb0 : Below w.heap.size w (w.alloc (.cells #[.int .i64 0, .int .i64 0, .string ⟨#[]⟩] 90)) := (Below.refl _ _).alloc (Nat.le_refl _) _
  have h0 := h.on hb0
  have HX0 := hid (heap_alloc_new w (.cells #[.int .i64 0, .int .i64 0, .string ⟨#[]⟩] 90))
  have HB0 := hid hb0
  have hin := h.in_
  obtain ⟨y0, y1, y2, yf⟩ := pbox_cells HX0.out
  have yf0 := yf 0
  have yf1 := yf 1
  have yf2 := yf 2
  cases ht : X.l[k]? with
  | none =>
    have hk : k = X.n := by have := List.getElem?_eq_none_iff.1 ht; rw [h.len] at this; omega
    obtain ⟨A', c', hx, _⟩ := h0.box
    obtain ⟨c0, c1, cf⟩ := box_cells hx
    have hz : X.n - k = 0 := by omega
    rw [hz] at c0
    rw [show kindAt X.l k = 0 by unfold kindAt; rw [ht], show posE X.E X.l k = X.E by unfold posE; rw [ht], textAt_none ht]
    clear h h0 hb0 hx cf hin hk ht hz yf
    go_enter Tryd.func52, Tryd.ntmps52
    go_wp2_with fail
    refine bodyPost_ret (results_cell_row (p := 2) (fn := Tryd.f52) rfl _ _ _ _ _ _ _ rfl (heap_alloc_new w _) Tryd.underlying90 rfl (by kernel_rfl)) rfl ?_
    exact ⟨rfl, (Below.refl _ _).alloc (Nat.le_refl _) _⟩
  | some t =>
    obtain ⟨g, c', hk, hc, hA, hx, d0, d1, d2⟩ := h0.cell ht
    obtain ⟨c0, c1, cf⟩ := box_cells hx
    rw [kindAt_some ht, show posE X.E X.l k = t.pos by unfold posE; rw [ht], textAt_some ht]
    obtain ⟨m, hm⟩ : ∃ m, X.n - k = m + 1 := ⟨X.n - k - 1, by omega⟩
    rw [hm] at c0
    have tz : (((m + 1 : Nat) : Int) == 0) = false := by simp; omega
    clear h h0 hb0 hx cf hin hk ht hc hA hm yf
    go_enter Tryd.func52, Tryd.ntmps52
    go_wp2_with fail
    refine bodyPost_ret (results_cell_row (p := 2) (fn := Tryd.f52) rfl _ _ _ _ _ _ _ rfl (heap_alloc_new w _) Tryd.underlying90 rfl (by kernel_rfl)) rfl ?_
    exact ⟨rfl, (Below.refl _ _).alloc (Nat.le_refl _) _⟩
theorem fld_at (a b : Int) (s : ByteArray) (W : World) : (Instr.field 90 (.agg #[.int .i64 a, .int .i64 b, .string s]) 1).run Tryd.prog W = .ok (.int .i64 b) W := by kernel_rfl
theorem fld_text (a b : Int) (s : ByteArray) (W : World) : (Instr.field 90 (.agg #[.int .i64 a, .int .i64 b, .string s]) 2).run Tryd.prog W = .ok (.string s) W := by kernel_rfl
theorem at_any (X : Rdr) (k : Nat) (w : World) (h : At X k w) :
    Calls Tryd.prog 34 #[.pointer (some ⟨X.BP, 0, none⟩)] w fun e w' => e = .returned (.int .i64 (posE X.E X.l k)) ∧ Below w.heap.size w w' := by
  have HA := hid (ahead_any X k w h)
  have hfl := fld_at (kindAt X.l k) (posE X.E X.l k) (txt (textAt X.l k))
  clear h
  go_enter Tryd.func34, Tryd.ntmps34
  go_wp2_with (go_at_call 52; (with_reducible refine HA.out.mono ?_); rintro e' w1 ⟨rfl, hb1⟩)
  go_ret
  exact ⟨rfl, hb1⟩
theorem pass_any (X : Rdr) (k : Nat) (w : World) (h : At X k w) (hk : k < X.n) :
    Calls Tryd.prog 58 #[.pointer (some ⟨X.BP, 0, none⟩)] w fun e w' => e = .returned (.tuple #[]) ∧ But X.BP w w' ∧ At X (k + 1) w' := by
  obtain ⟨t, ht⟩ : ∃ t, X.l[k]? = some t := ⟨X.l[k]'(by rw [h.len]; exact hk), List.getElem?_eq_getElem _⟩
  obtain ⟨g, c', _, hc, hA, hx, _, _, _⟩ := h.cell ht
  obtain ⟨c0, c1, cf⟩ := box_cells hx
  have cf0 := cf 0
  obtain ⟨i5, hi5, hz0, hz1, hz2⟩ := info_parts (show (Tryd.prog.info? 90).map (fun i => (i.zero, i.size, i.bytes)) = some (some (.agg #[.int .i64 0, .int .i64 0, .string ⟨#[]⟩]), 3, 32) by kernel_rfl)
  obtain ⟨z, hz, hr⟩ := run_from Tryd.underlying68 hi5 hz1 g (k * 3) (X.n - k) c' 1 1 rfl (by omega)
  have HX := hid hx
  have HH := hid h
  have HZ : Hid (k + 1 < X.n → z = (k + 1) * 3) := fun h1 => by
    rcases hz with h2 | h2
    · omega
    · rw [h2, Nat.add_mul]
  have hsub : X.n - k - 1 = X.n - (k + 1) := by omega
  have Hc := hid hc
  have HAd := hid hA
  rw [hsub] at hr
  clear h hx hz cf ht hi5 hz0 hz1 hz2 hc hA hsub
  go_enter Tryd.func58, Tryd.ntmps58
  go_wp2_with fail
  go_end0
  have hB : But X.BP w (w.setCell ⟨X.BP, 0, none⟩ (.slice (some ⟨g, z, none⟩) (X.n - (k + 1)) (c' - 1))) := But.set
  refine ⟨rfl, hB, HH.out.turn hB ⟨_, _, box_set0 HX.out, fun h1 => ⟨g, HAd.out, by rw [HZ.out h1], ?_⟩⟩ hk⟩
  have := Hc.out
  omega
/-- What takes tells. -/
def TkAns (X : Rdr) (k : Nat) (W : List UInt8) (w : World) (e : Ending) (w' : World) : Prop :=
  (textAt X.l k = W ∧ e = .returned (.bool true) ∧ But X.BP w w' ∧ At X (k + 1) w') ∨ (textAt X.l k ≠ W ∧ e = .returned (.bool false) ∧ Below w.heap.size w w')
theorem takes_any (X : Rdr) (k : Nat) (W : List UInt8) (w : World) (h : At X k w) (hW : W ≠ []) :
    Calls Tryd.prog 53 #[.pointer (some ⟨X.BP, 0, none⟩), .string (txt W)] w (TkAns X k W w) := by
  have HA := hid (ahead_any X k w h)
  have HH := hid h
  obtain ⟨T, hT⟩ : ∃ T, textAt X.l k = T := ⟨_, rfl⟩
  have hfl := fld_text (kindAt X.l k) (posE X.E X.l k) (txt T)
  by_cases he : T = W
  · have hlt : k < X.n := by rw [← h.len]; exact textAt_lt (by rw [hT, he]; exact hW)
    have HQ := hid (hT.trans he)
    subst he
    rw [hT] at HA
    have HP := hid (fun W hW => pass_any X k W hW hlt)
    have t1 : ((txt T).toList == (txt T).toList) = true := beq_self_eq_true _
    clear h hT hlt
    go_enter Tryd.func53, Tryd.ntmps53
    go_wp2_with (first
      | (go_at_call 52; (with_reducible refine HA.out.mono ?_); rintro e' w1 ⟨rfl, hb1⟩)
      | (go_at_call 58; (with_reducible refine (HP.out _ (HH.out.on hb1)).mono ?_); rintro e' w2 ⟨rfl, hb2, hs2⟩))
    go_ret
    exact .inl ⟨HQ.out, rfl, (But.of hb1).trans hb2, hs2⟩
  · have HQ := hid (show textAt X.l k ≠ W from fun hh => he (hT.symm.trans hh))
    rw [hT] at HA
    have t1 : ((txt T).toList == (txt W).toList) = false := by rw [txt_list, txt_list]; exact beq_false_of_ne he
    clear h hT he
    go_enter Tryd.func53, Tryd.ntmps53
    go_wp2_with (first
      | (go_at_call 52; (with_reducible refine HA.out.mono ?_); rintro e' w1 ⟨rfl, hb1⟩))
    go_ret
    exact .inr ⟨HQ.out, rfl, hb1⟩
/-- A box of the call's own, into which a reader writes. -/
structure Box (X : Rdr) (B : Nat) (cs : Array Value) (T : TypeId) (w : World) : Prop where
  box : w.heap[B]? = some (.cells cs T (0, 0))
  lo : X.w0.heap.size ≤ B
  r : 72 ≠ T
  t : 90 ≠ T
theorem Box.on {X : Rdr} {B : Nat} {cs : Array Value} {T : TypeId} {w w' : World} (h : Box X B cs T w) (hb : Below w.heap.size w w') : Box X B cs T w' := ⟨box_below h.box hb (pst_lt h.box), h.lo, h.r, h.t⟩
theorem Box.set {X : Rdr} {B : Nat} {cs : Array Value} {T : TypeId} {w : World} (h : Box X B cs T w) (j : Nat) (u : Value) : Box X B (cs.setIfInBounds j u) T (w.setCell ⟨B, j, none⟩ u) := ⟨heap_setCell_same w B j _ _ _ h.box, h.lo, h.r, h.t⟩
theorem Box.ne {X : Rdr} {B k : Nat} {cs : Array Value} {T : TypeId} {w : World} (h : Box X B cs T w) (ha : At X k w) : B ≠ X.BP := fun e => by
  obtain ⟨A', c', hx, _⟩ := ha.box
  have := h.box
  rw [e, hx] at this
  simp at this
  first | exact h.r this.2.1 | exact h.r this.2 | exact h.r this
theorem Box.but {X : Rdr} {B C : Nat} {cs : Array Value} {T : TypeId} {w w' : World} (h : Box X B cs T w) (hb : But C w w') (hne : B ≠ C) : Box X B cs T w' := ⟨(hb.block B (pst_lt h.box) hne).trans h.box, h.lo, h.r, h.t⟩
theorem Box.at {X : Rdr} {B k : Nat} {cs : Array Value} {T : TypeId} {w : World} (h : Box X B cs T w) (ha : At X k w) (j : Nat) (u : Value) : At X k (w.setCell ⟨B, j, none⟩ u) := ha.other But.set h.box h.lo h.r h.t
/-- What a reader tells that writes into a box: v into its cell j, and goes past a token; or nothing. -/
def WrAns (X : Rdr) (k B : Nat) (T : TypeId) (w : World) (R : Option (Array Value)) (e : Ending) (w' : World) : Prop :=
  (∃ cs', R = some cs' ∧ e = .returned (.bool true) ∧ But2 X.BP B w w' ∧ Box X B cs' T w' ∧ At X (k + 1) w') ∨ (R = none ∧ e = .returned (.bool false) ∧ Below w.heap.size w w')
theorem name_any (X : Rdr) (k B j : Nat) (cs : Array Value) (T : TypeId) (w : World) (h : At X k w) (hx : Box X B cs T w) {v0 : Value} (hj : cs[j]? = some v0) :
    Calls Tryd.prog 54 #[.pointer (some ⟨X.BP, 0, none⟩), .pointer (some ⟨B, j, none⟩)] w
      (WrAns X k B T w (if kindAt X.l k = 1 then some (cs.setIfInBounds j (.string (txt (textAt X.l k)))) else none)) := by
  have HA := hid (ahead_any X k w h)
  have HH := hid h
  have HX := hid hx
  have HJ := hid hj
  obtain ⟨K, hK⟩ : ∃ K, kindAt X.l k = K := ⟨_, rfl⟩
  obtain ⟨Y, hY⟩ : ∃ Y, textAt X.l k = Y := ⟨_, rfl⟩
  obtain ⟨P, hP⟩ : ∃ P, posE X.E X.l k = P := ⟨_, rfl⟩
  rw [hK, hY, hP] at HA
  rw [hK, hY]
  have HLt := hid (show K = 1 → k < X.n from fun h1 => by
    rw [← h.len]
    by_cases hk : k < X.l.length
    · exact hk
    · have : kindAt X.l k = 0 := by unfold kindAt; rw [List.getElem?_eq_none (by omega)]
      omega)
  have hne := hx.ne h
  have HNe := hid hne
  by_cases h1 : K = 1
  · subst h1
    rw [if_pos rfl]
    have HP := hid (fun W hW => pass_any X k W hW (HLt.out rfl))
    have t1 : ((1 : Int) != 1) = false := by decide
    clear h hx hj hK hY hP hne
    go_enter Tryd.func54, Tryd.ntmps54
    go_wp2_with (first
      | (go_at_call 52; (with_reducible refine HA.out.mono ?_); rintro e' w1 ⟨rfl, hb1⟩; have HB1 := hid hb1; have HX1 := hid (HX.out.on hb1); have HS1 := hid (HX1.out.at (HH.out.on hb1) j (.string (txt Y))); have hf := frozen_of_row _ _ j _ _ HX1.out.box; have hce := (cell_of_row _ _ j _ _ _ HX1.out.box).trans HJ.out; have hlx := pst_lt HX1.out.box; clear hb1)
      | (go_at_call 58; (with_reducible refine (HP.out _ (HS1.out.on ((Below.refl _ _).alloc (Nat.le_refl _) _))).mono ?_); rintro e' w2 ⟨rfl, hb2, hs2⟩))
    go_ret
    refine .inl ⟨_, rfl, rfl, ?_, ((HX1.out.set j _).on ((Below.refl _ _).alloc (Nat.le_refl _) _)).but hb2 HNe.out, hs2⟩
    exact (((But2.snd (But.of HB1.out)).trans (But2.snd But.set)).trans (But2.snd (But.of ((Below.refl _ _).alloc (Nat.le_refl _) _)))).trans (But2.fst hb2)
  · rw [if_neg h1]
    have t1 : (K != 1) = true := by simpa using h1
    clear h hx hj hK hY hP hne h1
    go_enter Tryd.func54, Tryd.ntmps54
    go_wp2_with (first
      | (go_at_call 52; (with_reducible refine HA.out.mono ?_); rintro e' w1 ⟨rfl, hb1⟩; have hb2 : Below w1.heap.size w1 (w1.alloc (.cells #[.int .i64 K, .int .i64 P, .string (txt Y)] 90)) := (Below.refl _ _).alloc (Nat.le_refl _) _; have HB := hid (hb1.trans (hb2.mono hb1.size)); clear hb2))
    go_ret
    exact .inr ⟨rfl, rfl, HB.out⟩
theorem rnum_any (X : Rdr) (k B j : Nat) (cs : Array Value) (T : TypeId) (w : World) (h : At X k w) (hx : Box X B cs T w) {v0 : Value} (hj : cs[j]? = some v0) :
    Calls Tryd.prog 55 #[.pointer (some ⟨X.BP, 0, none⟩), .pointer (some ⟨B, j, none⟩)] w
      (WrAns X k B T w ((numAt X.l k).map fun v => cs.setIfInBounds j (.int .i64 (v : Int)))) := by
  have HA := hid (ahead_any X k w h)
  have HH := hid h
  have HX := hid hx
  have HJ := hid hj
  have hD := num_dev h.ok k
  have hlen := h.len
  have hyl : (textAt X.l k).length ≤ 10000 := by
    cases ht : X.l[k]? with
    | none => rw [textAt_none ht]; simp
    | some t => rw [textAt_some ht]; exact h.sml t (List.mem_of_getElem? ht)
  obtain ⟨K, hK⟩ : ∃ K, kindAt X.l k = K := ⟨_, rfl⟩
  obtain ⟨Y, hY⟩ : ∃ Y, textAt X.l k = Y := ⟨_, rfl⟩
  obtain ⟨P, hP⟩ : ∃ P, posE X.E X.l k = P := ⟨_, rfl⟩
  have hfl := fld_text K P (txt Y)
  rw [hK, hY, hP] at HA
  rw [hY] at hD hyl
  have HN := hid (fun (W : World) (hW : At X k W) => show Calls Tryd.prog 24 #[.string (txt Y), .int .i64 2147483647] W fun e w' => e = .returned (numR Y 2147483647) ∧ Below W.heap.size W w' from number_any Y 2147483647 W hW.ld hyl (Nat.le_refl _))
  have HNe := hid (hx.ne h)
  rcases hD with ⟨v, hv, hr, hk⟩ | ⟨hv, hr⟩
  · rw [hv]
    rw [hr] at HN
    have HP := hid (fun W hW => pass_any X k W hW (by rw [← hlen]; exact hk))
    clear h hx hj hK hY hP hv hr hk hlen hyl
    go_enter Tryd.func55, Tryd.ntmps55
    go_wp2_with (first
      | (go_at_call 52; (with_reducible refine HA.out.mono ?_); rintro e' w1 ⟨rfl, hb1⟩)
      | (go_at_call 24; (with_reducible refine (HN.out _ (HH.out.on hb1)).mono ?_); rintro e' w2 ⟨rfl, hb2⟩; have HB := hid (hb1.trans (hb2.mono hb1.size)); have HX2 := hid (HX.out.on HB.out); have hf := frozen_of_row _ _ j _ _ HX2.out.box; have hce := (cell_of_row _ _ j _ _ _ HX2.out.box).trans HJ.out)
      | (go_at_call 58; (with_reducible refine (HP.out _ (HX2.out.at (HH.out.on HB.out) j _)).mono ?_); rintro e' w3 ⟨rfl, hb3, hs3⟩))

    go_ret
    refine .inl ⟨_, rfl, rfl, ?_, (HX2.out.set j _).but hb3 HNe.out, hs3⟩
    exact ((But2.snd (But.of HB.out)).trans (But2.snd But.set)).trans (But2.fst hb3)
  · rw [hv]
    rw [hr] at HN
    clear h hx hj hK hY hP hv hr hlen hyl
    go_enter Tryd.func55, Tryd.ntmps55
    go_wp2_with (first
      | (go_at_call 52; (with_reducible refine HA.out.mono ?_); rintro e' w1 ⟨rfl, hb1⟩)
      | (go_at_call 24; (with_reducible refine (HN.out _ (HH.out.on hb1)).mono ?_); rintro e' w2 ⟨rfl, hb2⟩; have HB := hid (hb1.trans (hb2.mono hb1.size))))
    go_ret
    exact .inr ⟨rfl, rfl, HB.out⟩
theorem rpref_any (X : Rdr) (k B j : Nat) (cs : Array Value) (T : TypeId) (w : World) (h : At X k w) (hx : Box X B cs T w) {v0 v1 : Value} (hj : cs[j]? = some v0) (hj1 : cs[j + 1]? = some v1) :
    Calls Tryd.prog 76 #[.pointer (some ⟨X.BP, 0, none⟩), .pointer (some ⟨B, j, none⟩)] w
      (WrAns X k B T w ((prefAt X.l k).map fun p => (cs.setIfInBounds j (.int .u32 (p.1 : Int))).setIfInBounds (j + 1) (.int .i64 (p.2 : Int)))) := by
  have HA := hid (ahead_any X k w h)
  have HH := hid h
  have HX := hid hx
  have HJ := hid hj
  have HJ1 := hid hj1
  have hlen := h.len
  have hyl : (textAt X.l k).length ≤ 10000 := by
    cases ht : X.l[k]? with
    | none => rw [textAt_none ht]; simp
    | some t => rw [textAt_some ht]; exact h.sml t (List.mem_of_getElem? ht)
  have HLt := hid (show ∀ p, prefAt X.l k = some p → k < X.n from fun p hp => by
    rcases pref_dev h.ok k with ⟨q, _, _, h3⟩ | ⟨h1, _⟩
    · rw [← hlen]; exact h3
    · rw [h1] at hp; cases hp)
  obtain ⟨K, hK⟩ : ∃ K, kindAt X.l k = K := ⟨_, rfl⟩
  obtain ⟨Y, hY⟩ : ∃ Y, textAt X.l k = Y := ⟨_, rfl⟩
  obtain ⟨P, hP⟩ : ∃ P, posE X.E X.l k = P := ⟨_, rfl⟩
  have hpa : prefAt X.l k = readS Y := by unfold prefAt; rw [hY]
  have hfl := fld_text K P (txt Y)
  rw [hK, hY, hP] at HA
  rw [hY] at hyl
  rw [hpa] at HLt ⊢
  have HNe := hid (hx.ne h)
  cases hr : readS Y with
  | none =>
    have HN : Hid (∀ W : World, At X k W → Calls Tryd.prog 10 #[.string (txt Y)] W fun e w' => e = .returned (.tuple #[.agg #[.int .u32 0, .int .i64 0], .bool false]) ∧ Below W.heap.size W w') := fun W hW => by
      have := read_land Y W hW.ld hyl
      rw [hr] at this
      exact this
    clear h hx hj hj1 hK hY hP hr hlen hyl hpa HLt
    go_enter Tryd.func76, Tryd.ntmps76
    go_wp2_with (first
      | (go_at_call 52; (with_reducible refine HA.out.mono ?_); rintro e' w1 ⟨rfl, hb1⟩)
      | (go_at_call 10; (with_reducible refine (HN.out _ (HH.out.on hb1)).mono ?_); rintro e' w2 ⟨rfl, hb2⟩; have HB := hid (hb1.trans (hb2.mono hb1.size))))
    go_ret
    exact .inr ⟨rfl, rfl, HB.out.trans (((Below.refl _ _).alloc (Nat.le_refl _) _).mono HB.out.size)⟩
  | some p =>
    obtain ⟨a, m⟩ := p
    have HN : Hid (∀ W : World, At X k W → Calls Tryd.prog 10 #[.string (txt Y)] W fun e w' => e = .returned (.tuple #[.agg #[.int .u32 (a : Int), .int .i64 (m : Int)], .bool true]) ∧ Below W.heap.size W w') := fun W hW => by
      have := read_land Y W hW.ld hyl
      rw [hr] at this
      exact this
    have HP := hid (fun W hW => pass_any X k W hW (HLt.out _ hr))
    clear h hx hj hj1 hK hY hP hr hlen hyl hpa HLt
    go_enter Tryd.func76, Tryd.ntmps76
    go_wp2_with (first
      | (go_at_call 52; (with_reducible refine HA.out.mono ?_); rintro e' w1 ⟨rfl, hb1⟩)
      | (go_at_call 10; (with_reducible refine (HN.out _ (HH.out.on hb1)).mono ?_); rintro e' w2 ⟨rfl, hb2⟩; have HB := hid (hb1.trans (hb2.mono hb1.size)); have HX2 := hid (HX.out.on HB.out); have hf := frozen_of_row _ _ j _ _ HX2.out.box; have hf1 := frozen_of_row _ _ (j + 1) _ _ HX2.out.box; have hce := (cell_of_row _ _ j _ _ _ HX2.out.box).trans HJ.out; have hce1 := (cell_of_row _ _ (j + 1) _ _ _ HX2.out.box).trans HJ1.out; have hlx := pst_lt HX2.out.box; have HS2 := hid (HX2.out.at (HH.out.on HB.out) j (.int .u32 (a : Int))); have HX3 := hid (HX2.out.set j (.int .u32 (a : Int))); have HS3 := hid (HX3.out.at HS2.out (j + 1) (.int .i64 (m : Int))); have HX4 := hid (HX3.out.set (j + 1) (.int .i64 (m : Int))))
      | (go_at_call 58; (with_reducible refine (HP.out _ (HS3.out.on ((Below.refl _ _).alloc (Nat.le_refl _) _))).mono ?_); rintro e' w3 ⟨rfl, hb3, hs3⟩))
    go_ret
    refine .inl ⟨_, rfl, rfl, ?_, (HX4.out.on ((Below.refl _ _).alloc (Nat.le_refl _) _)).but hb3 HNe.out, hs3⟩
    exact ((((But2.snd (But.of HB.out)).trans (But2.snd But.set)).trans (But2.snd But.set)).trans (But2.snd (But.of ((Below.refl _ _).alloc (Nat.le_refl _) _)))).trans (But2.fst hb3)
/-- What numbers tells. -/
def NmAns (X : Rdr) (k B j : Nat) (cs : Array Value) (T : TypeId) (w : World) (e : Ending) (w' : World) : Prop :=
  But2 X.BP B w w' ∧ ∃ (L : List Nat) (A5 : Option Addr) (c5 : Nat), e = .returned (.bool (decide (0 < L.length))) ∧ Box X B (cs.setIfInBounds j (.slice A5 L.length c5)) T w' ∧ w'.ownsRow w.heap.size 3 1 (.slice A5 L.length c5) L.length (icells (L.map Int.ofNat)) ∧ At X (k + L.length) w' ∧
    (L = [] → nums1 (Kd X.l k) = .error (Kd X.l k)) ∧ (L ≠ [] → (isS X.l (k + L.length) 2 = false ∧ nums1 (Kd X.l k) = .ok (L, Kd X.l (k + L.length))) ∨ (isS X.l (k + L.length) 2 = true ∧ nums1 (Kd X.l k) = .error (Kd X.l (k + L.length))))
/-- Where numbers stands. -/
structure NSt (X : Rdr) (k B j : Nat) (cs : Array Value) (T : TypeId) (w : World) (L : List Nat) (x : Int) (A5 : Option Addr) (c5 : Nat) (w' : World) : Prop where
  but : But2 X.BP B w w'
  box : Box X B (cs.setIfInBounds j (.slice A5 L.length c5)) T w'
  own : w'.ownsRow (w.heap.size + 1) 3 1 (.slice A5 L.length c5) L.length (icells (L.map Int.ofNat))
  at_ : At X (k + L.length) w'
  n : w'.heap[w.heap.size]? = some (.cells #[.int .i64 x] 3 (0, 0))
  run : L ≠ [] → nums1 (Kd X.l k) = contN L (more (Kd X.l (k + L.length)))
theorem NSt.end {X : Rdr} {k B j : Nat} {cs : Array Value} {T : TypeId} {w w' : World} {L : List Nat} {x : Int} {A5 : Option Addr} {c5 : Nat} (h : NSt X k B j cs T w L x A5 c5 w') (hn : numAt X.l (k + L.length) = none) :
    NmAns X k B j cs T w (.returned (.bool (decide (0 < L.length)))) w' := by
  refine ⟨h.but, L, A5, c5, rfl, h.box, own_mono h.own (Nat.le_succ _), h.at_, fun h0 => ?_, fun h0 => ?_⟩
  · subst h0
    exact nums1_bad hn
  · have hr := h.run h0
    cases hs : isS X.l (k + L.length) 2 with
    | false => exact .inl ⟨rfl, by rw [hr, more_end hs]; simp [contN]⟩
    | true => exact .inr ⟨rfl, by rw [hr, more_bad hs hn]⟩
theorem own_but3 {B C : Nat} {w w' : World} {base e size n : Nat} {v : Value} {xs : List Value} {t : TypeId} {c : Array Value} {fz : Nat × Nat} (hown : w.ownsRow base e size v n xs) (hb : But2 B C w w') (ho : w.heap[B]? = some (.cells c t fz)) (he : e ≠ t) (hC : C < base) : w'.ownsRow base e size v n xs := by
  refine ⟨hown.1, ?_⟩
  rcases hown.2 with h1 | ⟨g, cap, cur, h1, h2, hg, h3⟩
  · exact .inl h1
  · refine .inr ⟨g, cap, cur, h1, h2, (hb.block g (pst_lt hg) (fun e => ?_) (fun e => ?_)).trans hg, h3⟩
    · subst e; rw [ho] at hg; simp at hg; exact he hg.2.1.symm
    · omega
theorem At.left {X : Rdr} {k : Nat} {w : World} (h : At X k w) : lenOf ((w.cell? ⟨X.BP, 0, none⟩).getD undef) = X.n - k := by
  obtain ⟨A', c', hx, _⟩ := h.box
  rw [(box_cells hx).1]; rfl
theorem At.app {X : Rdr} {k : Nat} {w w4 : World} {base e s n : Nat} {v : Value} {xs : List Value} {o : Obj} (h : At X k w) (hown : w.ownsRow base e s v n xs) (hbase : X.w0.heap.size ≤ base) (hg : (w.alloc o).grownBy w4 v.ownBlock) (h1 : 72 ≠ e) (h2 : 90 ≠ e) : At X k w4 := by
  obtain ⟨A', c', hx, h3⟩ := h.box
  exact ⟨h.lib, below_app h.bel hbase hown hg, h.low, ⟨A', c', box_app2 hx hown h1 hg, h3⟩, own_app h.tok hown hg h2, h.few, h.sml, h.in_, h.ok⟩
theorem Box.app {X : Rdr} {B : Nat} {cs : Array Value} {T : TypeId} {w w4 : World} {base e s n : Nat} {v : Value} {xs : List Value} {o : Obj} (h : Box X B cs T w) (hown : w.ownsRow base e s v n xs) (hg : (w.alloc o).grownBy w4 v.ownBlock) (h1 : T ≠ e) : Box X B cs T w4 := ⟨box_app2 h.box hown h1 hg, h.lo, h.r, h.t⟩
theorem but2_app {B C : Nat} {w wr w4 : World} {base e s n : Nat} {v : Value} {xs : List Value} {o : Obj} (h : But2 B C w wr) (hb : w.heap.size ≤ base) (hown : wr.ownsRow base e s v n xs) (hg : (wr.alloc o).grownBy w4 v.ownBlock) : But2 B C w w4 := by
  have h1 := (Below.refl wr.heap.size wr).alloc (Nat.le_refl _) o
  have h2 := h.trans (But2.fst (But.of h1))
  refine ⟨hg.os.trans h2.os, hg.tape.trans h2.tape, hg.output.trans h2.output, Nat.le_trans h2.size hg.size, fun g hg1 hg2 hg3 => ?_⟩
  refine (hg.block g (Nat.lt_of_lt_of_le hg1 h2.size) (fun hh => ?_)).trans (h2.block g hg1 hg2 hg3)
  have := (hown.lt g hh.symm).1
  omega
theorem set_twice {cs : Array Value} {j : Nat} {u v : Value} : (cs.setIfInBounds j u).setIfInBounds j v = cs.setIfInBounds j v := by simp
theorem set_same {cs : Array Value} {j : Nat} {u : Value} (h : cs[j]? = some u) : cs.setIfInBounds j u = cs := by
  apply Array.ext_getElem?
  intro i
  rw [Array.getElem?_setIfInBounds]
  split
  · rename_i he
    subst he
    split
    · exact h.symm
    · rename_i hlt; exact absurd (Array.getElem?_eq_some_iff.1 h).1 hlt
  · rfl
theorem nst_start {X : Rdr} {k B j : Nat} {cs : Array Value} {T : TypeId} {w : World} (h : At X k w) (hx : Box X B cs T w) (hj : cs[j]? = some (.slice none 0 0)) : NSt X k B j cs T w [] 0 none 0 (w.alloc (.cells #[.int .i64 0] 3)) := by
  have hb := (Below.refl w.heap.size w).alloc (Nat.le_refl _) (.cells #[.int .i64 0] 3)
  exact ⟨But2.fst (But.of hb), by rw [List.length_nil, set_same hj]; exact hx.on hb, World.ownsRow_nil _ _ _ _, h.on hb, heap_alloc_new w _, fun h => absurd rfl h⟩
/-- Behind number. -/
structure NMd (X : Rdr) (k B j : Nat) (cs : Array Value) (T : TypeId) (w : World) (L : List Nat) (v : Nat) (A5 : Option Addr) (c5 : Nat) (w' : World) : Prop where
  but : But2 X.BP B w w'
  box : Box X B (cs.setIfInBounds j (.slice A5 L.length c5)) T w'
  own : w'.ownsRow (w.heap.size + 1) 3 1 (.slice A5 L.length c5) L.length (icells (L.map Int.ofNat))
  at_ : At X (k + L.length + 1) w'
  n : w'.heap[w.heap.size]? = some (.cells #[.int .i64 (v : Int)] 3 (0, 0))
theorem NSt.nbox {X : Rdr} {k B j : Nat} {cs : Array Value} {T : TypeId} {w w' : World} {L : List Nat} {x : Int} {A5 : Option Addr} {c5 : Nat} (h : NSt X k B j cs T w L x A5 c5 w') (hw : At X k w) : Box X w.heap.size #[.int .i64 x] 3 w' := ⟨h.n, hw.bel.size, by decide, by decide⟩
theorem nmd_of {X : Rdr} {k B j : Nat} {cs : Array Value} {T : TypeId} {w wr w5 : World} {L : List Nat} {x : Int} {A5 : Option Addr} {c5 v : Nat} (h : NSt X k B j cs T w L x A5 c5 wr) (hB : B < w.heap.size) (hb : But2 X.BP w.heap.size wr w5) (hn : Box X w.heap.size #[.int .i64 (v : Int)] 3 w5) (ha : At X (k + L.length + 1) w5) : NMd X k B j cs T w L v A5 c5 w5 := by
  obtain ⟨A', c', hx, _⟩ := h.at_.box
  refine ⟨⟨hb.os.trans h.but.os, hb.tape.trans h.but.tape, hb.output.trans h.but.output, Nat.le_trans h.but.size hb.size, fun g hg h1 h2 => (hb.block g (Nat.lt_of_lt_of_le hg h.but.size) h1 (by omega)).trans (h.but.block g hg h1 h2)⟩, ⟨(hb.block B (pst_lt h.box.box) (h.box.ne h.at_) (by omega)).trans h.box.box, h.box.lo, h.box.r, h.box.t⟩, own_but3 h.own hb hx (by decide) (Nat.lt_succ_self _), ha, hn.box⟩
theorem NMd.put {X : Rdr} {k B j : Nat} {cs : Array Value} {T : TypeId} {w wr w5 w6 : World} {L : List Nat} {x : Int} {A5 A6 : Option Addr} {c5 c6 v : Nat} {o : Obj} (h : NMd X k B j cs T w L v A5 c5 w5) (hs : NSt X k B j cs T w L x A5 c5 wr) (hw : At X k w) (hB : B < w.heap.size) (hT : T ≠ 3) (hv : numAt X.l (k + L.length) = some v)
    (hown : w6.ownsRow (w.heap.size + 1) 3 1 (.slice A6 (L.length + 1) c6) (L.length + 1) (icells (L.map Int.ofNat) ++ [.int .i64 (v : Int)])) (hg : (w5.alloc o).grownBy w6 (.slice A5 L.length c5 : Value).ownBlock) : NSt X k B j cs T w (L ++ [v]) (v : Int) A6 c6 (w6.setCell ⟨B, j, none⟩ (.slice A6 (L.length + 1) c6)) := by
  have hbx := (h.box.app h.own hg hT).set j (.slice A6 (L.length + 1) c6)
  have hat := h.at_.app h.own (by have := hw.bel.size; omega) hg (by decide) (by decide)
  have hn6 : w6.heap[w.heap.size]? = some (.cells #[.int .i64 (v : Int)] 3 (0, 0)) := box_app h.n (Nat.lt_succ_self _) h.own hg
  refine ⟨(but2_app h.but (by omega) h.own hg).trans (But2.snd But.set), ?_, ?_, ?_, (heap_setCell_other w6 ⟨B, j, none⟩ w.heap.size _ (by show w.heap.size ≠ B; omega)).trans hn6, fun _ => ?_⟩
  · rw [List.length_append, List.length_singleton]
    rw [set_twice] at hbx
    exact hbx
  · rw [List.length_append, List.length_singleton]
    have := own_set hown (a := ⟨B, j, none⟩) (by show B < _; omega) (.slice A6 (L.length + 1) c6)
    simpa [icells] using this
  · rw [List.length_append, List.length_singleton, ← Nat.add_assoc]
    exact (h.box.app h.own hg hT).at hat j _
  · rw [List.length_append, List.length_singleton, ← Nat.add_assoc]
    by_cases h0 : L = []
    · subst h0
      exact nums1_on hv
    · have hi : isS X.l (k + L.length) 2 = true := by
        unfold numAt at hv
        unfold isS
        cases ht : X.l[k + L.length]? with
        | none => rw [ht] at hv; cases hv
        | some t =>
          rw [ht] at hv
          have h2 : numT (era t) = some v := hv
          unfold numT at h2
          split at h2
          · rename_i h3; exact beq_iff_eq.2 h3.1
          · cases h2
      rw [hs.run h0]
      exact more_on hi hv L
theorem NSt.on {X : Rdr} {k B j : Nat} {cs : Array Value} {T : TypeId} {w wr w' : World} {L : List Nat} {x : Int} {A5 : Option Addr} {c5 : Nat} (h : NSt X k B j cs T w L x A5 c5 wr) (hb : Below wr.heap.size wr w') : NSt X k B j cs T w L x A5 c5 w' :=
  ⟨h.but.trans (But2.fst (But.of hb)), h.box.on hb, own_below h.own hb, h.at_.on hb, box_below h.n hb (pst_lt h.n), h.run⟩
theorem NMd.drew {X : Rdr} {k B j : Nat} {cs : Array Value} {T : TypeId} {w wr : World} {L : List Nat} {v : Nat} {A5 : Option Addr} {c5 : Nat} (h : NMd X k B j cs T w L v A5 c5 wr) : NMd X k B j cs T w L v A5 c5 wr.drew := by
  have hb : Below wr.heap.size wr wr.drew := (Below.refl _ _).drew
  exact ⟨h.but.trans (But2.fst (But.of hb)), h.box.on hb, own_below h.own hb, h.at_.on hb, box_below h.n hb (pst_lt h.n)⟩
theorem rnums_any (X : Rdr) (k B j : Nat) (cs : Array Value) (T : TypeId) (w : World) (h : At X k w) (hx : Box X B cs T w) (hj : cs[j]? = some (.slice none 0 0)) (hT : T ≠ 3) :
    Calls Tryd.prog 75 #[.pointer (some ⟨X.BP, 0, none⟩), .pointer (some ⟨B, j, none⟩)] w (NmAns X k B j cs T w) := by
  obtain ⟨i5, hi5, hz0, hz1, hz2⟩ := info_parts (show (Tryd.prog.info? 3).map (fun i => (i.zero, i.size, i.bytes)) = some (some (.int .i64 0), 1, 8) by kernel_rfl)
  have Ai := hid hi5; have Az0 := hid hz0; have Az1 := hid hz1; have Az2 := hid hz2
  have HS0 := hid (nst_start h hx hj)
  have HH := hid h
  have HB := hid (pst_lt hx.box)
  have HJ := hid (show j < cs.size from (Array.getElem?_eq_some_iff.1 hj).1)
  have HT := hid hT
  clear hi5 hz0 hz1 hz2 h hx hj hT
  go_enter Tryd.func75, Tryd.ntmps75
  go_wp2_with fail
  go_loopw [] (fun wr => ∃ (L : List Nat) (x : Int) (A5 : Option Addr) (c5 : Nat), Hid (NSt X k B j cs T w L x A5 c5 wr)) (fun wr => lenOf ((wr.cell? ⟨X.BP, 0, none⟩).getD undef))
  case atStart => exact ⟨[], 0, none, 0, HS0⟩
  case round =>
    obtain ⟨L, x, A5, c5, HSt⟩ := hrel
    have HN := hid (rnum_any X (k + L.length) w.heap.size 0 #[.int .i64 x] 3 wr HSt.out.at_ (HSt.out.nbox HH.out) (v0 := .int .i64 x) rfl)
    have hfew := HSt.out.at_.few
    have hin := HSt.out.at_.in_
    cases hv : numAt X.l (k + L.length) with
    | none =>
      rw [hv] at HN
      have HV := hid hv
      obtain ⟨m, hm⟩ : ∃ m, L.length = m := ⟨_, rfl⟩
      have hce := (cell_of_row _ _ j _ _ _ HSt.out.box.box)
      rw [Array.getElem?_setIfInBounds_self_of_lt HJ.out] at hce
      rw [hm] at hce
      go_wp2_with (go_at_call 55; (with_reducible refine HN.out.mono ?_); intro e' w2 hN; obtain ⟨rfl, hb2⟩ : e' = .returned (.bool false) ∧ Below wr.heap.size wr w2 := (by rcases hN with ⟨cs', h1, _⟩ | ⟨_, h2, h3⟩; (· cases h1); exact ⟨h2, h3⟩); have HB2 := hid hb2; have hc2 := (hb2.cell (p := ⟨B, j, none⟩) (pst_lt HSt.out.box.box)).trans hce; clear hN hb2)
      go_ret
      rw [← hm]
      exact (HSt.out.on HB2.out).end HV.out
    | some v =>
      rw [hv] at HN
      have HV := hid hv
      have hk : k + L.length < X.n := by
        rcases num_dev HSt.out.at_.ok (k + L.length) with ⟨_, _, _, h3⟩ | ⟨h1, _⟩
        · rw [← HSt.out.at_.len]; exact h3
        · rw [hv] at h1; cases h1
      obtain ⟨m, hm⟩ : ∃ m, L.length = m := ⟨_, rfl⟩
      go_wp2_with (go_at_call 55; (with_reducible refine HN.out.mono ?_); intro e' w5 hN; obtain ⟨rfl, hmd⟩ : e' = .returned (.bool true) ∧ NMd X k B j cs T w L v A5 c5 w5 := (by rcases hN with ⟨cs', h1, h2, h3, h4, h5⟩ | ⟨h1, _⟩; (· obtain rfl : #[.int .i64 (v : Int)] = cs' := (by simpa using h1); exact ⟨h2, nmd_of HSt.out HB.out h3 h4 h5⟩); cases h1); have HM := hid hmd; have HMd := hid hmd.drew; have HOd := hid hmd.drew.own; have hce := (cell_of_row _ _ j _ _ _ HMd.out.box.box); (rw [Array.getElem?_setIfInBounds_self_of_lt HJ.out] at hce); have hcf := frozen_of_row _ _ j _ _ HMd.out.box.box; have hcn := (cell_of_row _ _ 0 _ _ _ HMd.out.n).trans (show #[Value.int .i64 (v : Int)][0]? = some (.int .i64 (v : Int)) from rfl); (rw [hm] at hce HOd); have hlb := HMd.out.but.size; clear hN hmd)
      have hltB := pst_lt HM.out.box.box
      have hltN := pst_lt HM.out.n
      have hba := (Below.refl w5.heap.size w5).alloc (Nat.le_refl _) (.cells #[.int .i64 (v : Int)] 3)
      have hce2 := (hba.cell (p := ⟨B, j, none⟩) hltB).trans hce
      have hcf2 := (hba.frozen (p := ⟨B, j, none⟩) hltB).trans hcf
      clear hba
      have hml : m ≤ 10000 := by omega
      clear hv
      go_region_law (first
        | ((refine step_append_some (by rfl) (.tmp 11) (.tmp 13) 41 (by rfl) (w.heap.size + 1) 3 i5 (.int .i64 0) 1 8 Tryd.underlying41 Ai.out Az0.out Az1.out Az2.out rfl (by decide) (.slice A5 m c5) m (icells (L.map Int.ofNat)) (by rfl) (HOd.out.alloc _) ⟨w5.drew.heap.size, 0, none⟩ 1 1 [.int .i64 (v : Int)] (by rfl) (by rfl) (new_row (w := w5.drew) (by rfl)) (by simp [Value.oneCell']) (by unfold maxLen; omega) (by omega) (by simp at hlb ⊢; omega) ?_; intro A6 c6 w6 hown6 hg6; have HNx := hid (HMd.out.put (A6 := A6) (c6 := c6) HSt.out HH.out HB.out HT.out HV.out (by rw [hm]; exact hown6) (by rw [hm]; exact hg6)); have hb6 := HMd.out.box.app HMd.out.own (by rw [hm]; exact hg6) HT.out; have c6b := (cell_of_row _ _ j _ _ _ hb6.box); (rw [Array.getElem?_setIfInBounds_self_of_lt HJ.out] at c6b); have c6f := frozen_of_row _ _ j _ _ hb6.box; clear hown6 hg6 hb6)))
      all_goals
        subst hm
        have HLf := HNx.out.at_.left
        have HLo := HSt.out.at_.left
        go_roundw
        case rel => exact ⟨_, _, _, _, _, _, _, _, _, _, ⟨L ++ [v], (v : Int), A6, c6, HNx⟩, rfl⟩
        case measure =>
          rw [HLf, HLo, List.length_append, List.length_singleton]
          omega
end Go.Proofs.YtcmkcloapenpnaaDoor
