/- What Parse tells is fair: names, lists, numbers. -/
import Derived.Test.YtcmkcloapenpnaaDoorPlN
namespace Go.Proofs.YtcmkcloapenpnaaDoor
open Go.RowKit
set_option maxHeartbeats 3200000
set_option maxRecDepth 100000
theorem num1_suf {ts t : List Tk} {v : Nat} (h : num1 ts = .ok (v, t)) : t <:+ ts := by
  cases ts with
  | nil => cases h
  | cons a r =>
    simp only [num1] at h
    split at h
    · cases h; exact List.suffix_cons _ _
    · cases h
theorem more_suf : ∀ {ts t : List Tk} {v : List Nat}, more ts = .ok (v, t) → t <:+ ts ∧ v.length ≤ ts.length := by
  intro ts
  induction ts with
  | nil => intro t v h; cases h; exact ⟨List.suffix_rfl, Nat.le_refl _⟩
  | cons a r ih =>
    intro t v h
    unfold more at h
    split at h
    · split at h
      · split at h
        · rename_i h3
          cases h
          obtain ⟨h4, h5⟩ := ih h3
          exact ⟨h4.trans (List.suffix_cons _ _), by simp only [List.length_cons]; omega⟩
        · cases h
      · cases h
    · cases h; exact ⟨List.suffix_rfl, Nat.zero_le _⟩
theorem nums1_suf {ts t : List Tk} {v : List Nat} (h : nums1 ts = .ok (v, t)) : t <:+ ts ∧ v.length ≤ ts.length := by
  unfold nums1 at h
  split at h
  · rename_i h1
    split at h
    · rename_i h2
      cases h
      obtain ⟨h3, h4⟩ := more_suf h2
      have h5 := num1_len h1
      exact ⟨h3.trans (num1_suf h1), by simp only [List.length_cons]; omega⟩
    · cases h
  · cases h
theorem pref1_suf {ts t : List Tk} {v : Nat × Nat} (h : pref1 ts = .ok (v, t)) : t <:+ ts := by
  cases ts with
  | nil => cases h
  | cons a r =>
    simp only [pref1] at h
    split at h
    · split at h
      · cases h; exact List.suffix_cons _ _
      · cases h
    · cases h
/-- Lists that are not long, and whose name it is. -/
structure Few (K : Nat) (r : Rul) : Prop where
  via : r.x.via.length ≤ K
  nds : r.x.nds.length ≤ K
  lks : r.x.lks.length ≤ K
  cls : r.x.cls.length ≤ K
theorem clauseI_suf {K i : Nat} {r r' : Rul} {ts t : List Tk} (hr : Few K r) (hK : ts.length ≤ K) (h : clauseI i r ts = .ok (r', t)) : t <:+ ts ∧ Few K r' ∧ r'.name = r.name := by
  have hN : ∀ {f : Rul → Nat → Rul}, (∀ v : Nat, Few K (f r v) ∧ (f r v).name = r.name) → withN f r ts = .ok (r', t) → t <:+ ts ∧ Few K r' ∧ r'.name = r.name := by
    intro f hf h
    unfold withN at h
    split at h
    · rename_i h1; cases h; exact ⟨num1_suf h1, hf _⟩
    · cases h
  have hL : ∀ {f : Rul → List Int → Rul}, (∀ vs : List Int, vs.length ≤ K → Few K (f r vs) ∧ (f r vs).name = r.name) → withL f r ts = .ok (r', t) → t <:+ ts ∧ Few K r' ∧ r'.name = r.name := by
    intro f hf h
    unfold withL at h
    split at h
    · rename_i h1; cases h
      obtain ⟨h2, h3⟩ := nums1_suf h1
      exact ⟨h2, hf _ (by rw [List.length_map]; omega)⟩
    · cases h
  have hP : ∀ {f : Rul → Nat → Nat → Rul}, (∀ a n : Nat, Few K (f r a n) ∧ (f r a n).name = r.name) → withP f r ts = .ok (r', t) → t <:+ ts ∧ Few K r' ∧ r'.name = r.name := by
    intro f hf h
    unfold withP at h
    split at h
    · rename_i h1; cases h; exact ⟨pref1_suf h1, hf _ _⟩
    · cases h
  have hs : ∀ {q : Rul}, q.x.via = r.x.via → q.x.nds = r.x.nds → q.x.lks = r.x.lks → q.x.cls = r.x.cls → q.name = r.name → Few K q ∧ q.name = r.name := by
    intro q h1 h2 h3 h4 h5
    exact ⟨⟨by rw [h1]; exact hr.via, by rw [h2]; exact hr.nds, by rw [h3]; exact hr.lks, by rw [h4]; exact hr.cls⟩, h5⟩
  unfold clauseI at h
  split at h
  · exact hL (fun v hv => ⟨⟨hv, hr.nds, hr.lks, hr.cls⟩, rfl⟩) h
  · exact hL (fun v hv => ⟨⟨hr.via, hv, hr.lks, hr.cls⟩, rfl⟩) h
  · exact hL (fun v hv => ⟨⟨hr.via, hr.nds, hv, hr.cls⟩, rfl⟩) h
  · exact hL (fun v hv => ⟨⟨hr.via, hr.nds, hr.lks, hv⟩, rfl⟩) h
  · exact hN (fun v => hs rfl rfl rfl rfl rfl) h
  · exact hP (fun a n => hs rfl rfl rfl rfl rfl) h
  · exact hP (fun a n => hs rfl rfl rfl rfl rfl) h
  · exact hN (fun v => hs rfl rfl rfl rfl rfl) h
  · exact hN (fun v => hs rfl rfl rfl rfl rfl) h
  · exact hN (fun v => hs rfl rfl rfl rfl rfl) h
  · cases h; exact ⟨List.suffix_rfl, hs rfl rfl rfl rfl rfl⟩
  · exact hN (fun v => hs rfl rfl rfl rfl rfl) h
  · exact hN (fun v => hs rfl rfl rfl rfl rfl) h
theorem clausesP_suf {K : Nat} : ∀ (f : Nat) {had had' : List (List UInt8)} {r r' : Rul} {ts t : List Tk}, Few K r → ts.length ≤ K → clausesP f had r ts = .ok (had', r', t) → t <:+ ts ∧ Few K r' ∧ r'.name = r.name := by
  intro f
  induction f with
  | zero => intro had had' r r' ts t hr _ h; cases h; exact ⟨List.suffix_rfl, hr, rfl⟩
  | succ f ih =>
    intro had had' r r' ts t hr hK h
    cases ts with
    | nil => cases h; exact ⟨List.suffix_rfl, hr, rfl⟩
    | cons a ts =>
      unfold clausesP at h
      split at h
      · split at h
        · cases h
        · split at h
          · rename_i h3
            simp only [List.length_cons] at hK
            obtain ⟨h4, h5, h6⟩ := clauseI_suf hr (by omega) h3
            obtain ⟨h7, h8, h9⟩ := ih h5 (by have := h4.length_le; omega) h
            exact ⟨(h7.trans h4).trans (List.suffix_cons _ _), h8, h9.trans h6⟩
          · cases h
      · cases h; exact ⟨List.suffix_rfl, hr, rfl⟩
theorem ruleP_suf {K : Nat} {ts t : List Tk} {r : Rul} (hK : ts.length ≤ K) (h : ruleP ts = .ok (r, t)) : t <:+ ts ∧ Few K r ∧ ∃ q ∈ ts, q.1 = 1 ∧ r.name = q.2 := by
  cases ts with
  | nil => cases h
  | cons a ts =>
    simp only [ruleP] at h
    split at h
    · cases ts with
      | nil => cases h
      | cons b ts =>
        simp only [nameP] at h
        split at h
        · rename_i hb
          split at h
          · rename_i h1
            split at h
            · rename_i x h2
              obtain ⟨had, r', t'⟩ := x
              have h3 := num1_len h1
              simp only [List.length_cons] at hK
              obtain ⟨h4, h5, h6⟩ := clausesP_suf (K := K) _ (r := { noRul with name := b.2, pri := _ }) ⟨Nat.zero_le _, Nat.zero_le _, Nat.zero_le _, Nat.zero_le _⟩ (by omega) h2
              cases t' with
              | nil => cases h
              | cons c t' =>
                simp only [shutR] at h
                split at h
                · cases h
                  exact ⟨(((List.suffix_cons _ _).trans h4).trans (num1_suf h1)).trans ((List.suffix_cons _ _).trans (List.suffix_cons _ _)), h5, b, by simp, hb, h6⟩
                · cases h
            · cases h
          · cases h
        · cases h
    · cases h
theorem rulesP_fair {K : Nat} : ∀ (f : Nat) {ts : List Tk} {l : List (Nat × Rul)}, ts.length ≤ K → rulesP f ts = .ok l → ∀ x ∈ l, NumOk x.2 ∧ Few K x.2 ∧ ∃ q ∈ ts, q.1 = 1 ∧ x.2.name = q.2 := by
  intro f
  induction f with
  | zero => intro ts l _ h; cases h; intro x hx; cases hx
  | succ f ih =>
    intro ts l hK h
    cases ts with
    | nil => cases h; intro x hx; cases hx
    | cons t ts =>
      unfold rulesP at h
      split at h
      · rename_i h1
        split at h
        · rename_i l' h2
          cases h
          obtain ⟨h3, h4, h5⟩ := ruleP_suf hK h1
          intro x hx
          rcases List.mem_cons.1 hx with rfl | hx
          · exact ⟨ruleP_in h1, h4, h5⟩
          · obtain ⟨h6, h7, q, hq, h8⟩ := ih (by have := h3.length_le; omega) h2 x hx
            exact ⟨h6, h7, q, h3.subset hq, h8⟩
        · cases h
      · cases h
/-- What Parse tells, when it tells rules. -/
theorem parse_fair {s : List UInt8} {L : List Rul} {a : Int} (h : parseS s = (L, a, 0)) : L.length ≤ 20 ∧ ∀ r ∈ L, Fair r ∧ Named r := by
  obtain ⟨l, a', e, hs⟩ : ∃ l a e, splitS s = (l, a, e) := ⟨_, _, _, rfl⟩
  by_cases he : e = 0
  · subst he
    obtain ⟨hl1, hl2⟩ := split_few hs
    obtain ⟨ht, _, _⟩ := split_toks hs
    obtain ⟨R, hR⟩ : ∃ R, rulesA (Kd l 0) = R := ⟨_, rfl⟩
    cases R with
    | error e =>
      unfold parseS at h
      rw [hs] at h
      simp only [if_pos] at h
      rw [show l.map era = Kd l 0 by simp [Kd], hR] at h
      simp at h
    | ok done =>
      rw [parse_ok hs hR] at h
      split at h
      · simp at h
      · rename_i h20
        simp only [Prod.mk.injEq, and_true] at h
        obtain ⟨rfl, rfl⟩ := h
        refine ⟨by rw [List.length_map]; omega, fun r hr => ?_⟩
        obtain ⟨x, hx, rfl⟩ := List.mem_map.1 hr
        have hlen : (Kd l 0).length ≤ 10000 := by rw [Kd_len]; omega
        obtain ⟨h1, h2, q, hq, h3, h4⟩ := rulesP_fair (K := 10000) _ hlen hR x hx
        have hq' : q ∈ l.map era := by simpa [Kd] using hq
        obtain ⟨t, htl, rfl⟩ := List.mem_map.1 hq'
        refine ⟨⟨h1, by rw [h4]; exact hl2 t htl, by have := h2.via; omega, by have := h2.nds; omega, by have := h2.lks; omega, by have := h2.cls; omega⟩, ?_⟩
        have hk := ht t htl
        unfold Named
        rw [h4]
        rcases hk with hk | hk | hk
        · exact ⟨hk.2.1, hk.2.2⟩
        · have h5 : t.kind = 1 := h3
          rw [h5] at hk; exact absurd hk.1 (by decide)
        · have h5 : t.kind = 1 := h3
          rw [h5] at hk; exact absurd hk.1 (by decide)
  · unfold parseS at h
    rw [hs] at h
    simp only [if_neg he] at h
    simp only [Prod.mk.injEq] at h
    exact absurd h.2.2 he
end Go.Proofs.YtcmkcloapenpnaaDoor
