/- The reference's Parse. -/
import Derived.Test.YtcmkcloapenpnaaGreatDoorPlF
import Derived.Deep.WholeRow
namespace Go.Proofs.YtcmkcloapenpnaaGreatDoor
open Go.RowKit
set_option maxHeartbeats 6400000
set_option maxRecDepth 100000
theorem while_len (P : UInt8 → Bool) : ∀ l : List UInt8, (l.takeWhile P).length + (l.dropWhile P).length = l.length
  | [] => rfl
  | c :: r => by
    cases h : P c with
    | true => rw [List.takeWhile_cons_of_pos h, List.dropWhile_cons_of_pos h]; have := while_len P r; simp; omega
    | false => rw [List.takeWhile_cons_of_neg (by simp [h]), List.dropWhile_cons_of_neg (by simp [h])]; simp
theorem while_pos {P : UInt8 → Bool} {c : UInt8} {r : List UInt8} (h : P c = true) : ((c :: r).dropWhile P).length ≤ r.length ∧ ((c :: r).takeWhile P).length ≤ r.length + 1 := by
  have := while_len P (c :: r)
  refine ⟨drop_less h, ?_⟩
  simp only [List.length_cons] at this
  omega
theorem scan_few : ∀ (f i : Nat) (s : List UInt8), (scan f i s).1.length ≤ s.length ∧ ∀ t ∈ (scan f i s).1, t.text.length ≤ s.length := by
  intro f
  induction f with
  | zero => intro i s; exact ⟨Nat.zero_le _, fun t h => by simp [scan] at h⟩
  | succ f ih =>
    intro i s
    cases s with
    | nil => exact ⟨Nat.zero_le _, fun t h => by simp [scan] at h⟩
    | cons c r =>
      unfold scan
      split
      · obtain ⟨h1, h2⟩ := ih (i + 1) r
        exact ⟨by simp; omega, fun t ht => by have := h2 t ht; simp; omega⟩
      · split
        · rename_i h35
          have hc : isRm c = true := by rw [eq_of_beq h35]; decide
          obtain ⟨h0, _⟩ := while_pos (r := r) hc
          obtain ⟨h1, h2⟩ := ih (i + ((c :: r).takeWhile isRm).length) ((c :: r).dropWhile isRm)
          exact ⟨by simp only [List.length_cons]; omega, fun t ht => by have := h2 t ht; simp only [List.length_cons]; omega⟩
        · split
          · rename_i h3
            have hc : isWd c = true := by unfold isWd; rw [h3]; rfl
            obtain ⟨h0, h00⟩ := while_pos (r := r) hc
            obtain ⟨h1, h2⟩ := ih (i + ((c :: r).takeWhile isWd).length) ((c :: r).dropWhile isWd)
            refine ⟨by simp only [List.length_cons]; omega, fun t ht => ?_⟩
            rw [List.mem_cons] at ht
            rcases ht with rfl | ht
            · exact h00
            · have := h2 t ht; simp only [List.length_cons]; omega
          · split
            · rename_i h4
              have hc : isNm c = true := by unfold isNm; rw [h4]; rfl
              obtain ⟨h0, h00⟩ := while_pos (r := r) hc
              obtain ⟨h1, h2⟩ := ih (i + ((c :: r).takeWhile isNm).length) ((c :: r).dropWhile isNm)
              refine ⟨by simp only [List.length_cons]; omega, fun t ht => ?_⟩
              rw [List.mem_cons] at ht
              rcases ht with rfl | ht
              · exact h00
              · have := h2 t ht; simp only [List.length_cons]; omega
            · split
              · obtain ⟨h1, h2⟩ := ih (i + 1) r
                refine ⟨by simp only [List.length_cons]; omega, fun t ht => ?_⟩
                rw [List.mem_cons] at ht
                rcases ht with rfl | ht
                · simp
                · have := h2 t ht; simp only [List.length_cons]; omega
              · exact ⟨Nat.zero_le _, fun t h => by simp at h⟩
theorem split_few {s : List UInt8} {l : List Tok} {a : Int} (h : splitS s = (l, a, 0)) : l.length ≤ 10000 ∧ ∀ t ∈ l, t.text.length ≤ 10000 := by
  unfold splitS at h
  split at h
  · simp at h
  · rename_i h1
    split at h
    · rename_i l' h2
      simp only [Prod.mk.injEq] at h
      rw [← h.1]
      have h3 := scan_few (s.drop 0).length 0 (s.drop 0)
      have h4 : (scan (s.drop 0).length 0 (s.drop 0)).1 = l' := by
        show (scanAt s 0).1 = _
        rw [h2]
      rw [h4] at h3
      simp only [List.drop_zero] at h3
      exact ⟨by omega, fun t ht => by have := h3.2 t ht; omega⟩
    · simp at h
def rrow (qs : List (Rul × WSl)) : List Value := qs.flatMap fun q => (rarr q.1 q.2).toList
theorem rrow_app (a b : List (Rul × WSl)) : rrow (a ++ b) = rrow a ++ rrow b := List.flatMap_append
theorem rrow_len (qs : List (Rul × WSl)) : (rrow qs).length = qs.length * 17 := by
  induction qs with
  | nil => rfl
  | cons x r ih => simp only [rrow, List.flatMap_cons, List.length_append, List.length_cons] at *; rw [ih]; simp [rarr]; omega
theorem rrow_at {qs : List (Rul × WSl)} {i j : Nat} {q : Rul × WSl} {v : Value} (h : qs[i]? = some q) (hv : (rarr q.1 q.2)[j]? = some v) : (rrow qs)[i * 17 + j]? = some v := by
  have hj : j < 17 := (Array.getElem?_eq_some_iff.1 hv).1
  induction qs generalizing i with
  | nil => simp at h
  | cons x r ih =>
    cases i with
    | zero =>
      simp at h
      subst h
      simp only [rrow, List.flatMap_cons, Nat.zero_mul, Nat.zero_add]
      rw [List.getElem?_append_left (by simpa [rarr] using hj)]
      simpa using hv
    | succ i =>
      simp at h
      have := ih h
      simp only [rrow, List.flatMap_cons]
      rw [List.getElem?_append_right (by simp [rarr]; omega)]
      rw [show (i + 1) * 17 + j - (rarr x.1 x.2).toList.length = i * 17 + j by simp [rarr]; omega]
      exact this
/-- A slice that reads as rules. -/
structure RRul (w : World) (A : Option Addr) (n c : Nat) (qs : List (Rul × WSl)) : Prop where
  len : qs.length = n
  cap : n ≤ c
  non : A = none → n = 0 ∧ c = 0
  row : 0 < n → ∃ b off, A = some ⟨b, off, none⟩ ∧ b < w.heap.size ∧ ∀ (i : Nat) (q : Rul × WSl) (j : Nat) (v : Value), qs[i]? = some q → (rarr q.1 q.2)[j]? = some v → w.cell? ⟨b, off + i * 17 + j, none⟩ = some v
  wants : ∀ q ∈ qs, WArg w q.1.x q.2
theorem RRul.on {w w' : World} {A : Option Addr} {n c : Nat} {qs : List (Rul × WSl)} (h : RRul w A n c qs) (hb : Below w.heap.size w w') : RRul w' A n c qs := by
  refine ⟨h.len, h.cap, h.non, fun hn => ?_, fun q hq => (h.wants q hq).on hb⟩
  obtain ⟨b, off, hA, hlt, hc⟩ := h.row hn
  exact ⟨b, off, hA, Nat.lt_of_lt_of_le hlt hb.size, fun i q j v hq hv => (hb.cell (p := ⟨b, off + i * 17 + j, none⟩) hlt).trans (hc i q j v hq hv)⟩
def ParseAns (x : List Rul × Int × Int) (w : World) (e : Ending) (w' : World) : Prop :=
  Below w.heap.size w w' ∧ ∃ A c qs, qs.map (·.1) = x.1 ∧ e = .returned (.tuple #[.slice A qs.length c, .int .i64 x.2.1, .int .i64 x.2.2]) ∧ RRul w' A qs.length c qs
theorem parseAns_none {s : List UInt8} {a e : Int} {w w' : World} (h : parseS s = ([], a, e)) (hb : Below w.heap.size w w') : ParseAns (parseS s) w (.returned (.tuple #[.slice none 0 0, .int .i64 a, .int .i64 e])) w' := by
  rw [h]
  exact ⟨hb, none, 0, [], rfl, rfl, ⟨rfl, Nat.le_refl _, fun _ => ⟨rfl, rfl⟩, fun hn => by simp at hn, fun q hq => by simp at hq⟩⟩
def contR (done : List (Nat × Rul)) : Except (List Tk) (List (Nat × Rul)) → Except (List Tk) (List (Nat × Rul))
  | .ok l => .ok (done ++ l)
  | .error e => .error e
theorem rules_on {l : List Tok} {k k' : Nat} {r : Rul} (hk : k < l.length) (h : ruleP (Kd l k) = .ok (r, Kd l k')) (done : List (Nat × Rul)) : contR done (rulesA (Kd l k)) = contR (done ++ [(l.length - k, r)]) (rulesA (Kd l k')) := by
  have ht : l[k]? = some l[k] := List.getElem?_eq_getElem hk
  have hlen : (Kd l k).length = l.length - k := Kd_len
  rw [Kd_some ht] at h hlen ⊢
  rw [rulesA_cons, h]
  simp only
  rw [hlen]
  cases rulesA (Kd l k') with
  | error e => rfl
  | ok x => simp [contR]
theorem rules_bad {l : List Tok} {k k' : Nat} (hk : k < l.length) (h : ruleP (Kd l k) = .error (Kd l k')) (done : List (Nat × Rul)) : contR done (rulesA (Kd l k)) = .error (Kd l k') := by
  have ht : l[k]? = some l[k] := List.getElem?_eq_getElem hk
  rw [Kd_some ht] at h ⊢
  rw [rulesA_cons, h]
  rfl
def longS (s : List UInt8) (l : List Tok) (done : List (Nat × Rul)) : Int := match done[20]? with
  | some (k, _) => posAt s l (l.length - k)
  | none => -1
def In31 (v : Int) : Prop := 0 ≤ v ∧ v ≤ 2147483647
/-- Numbers as a text has them. -/
structure NumOk (r : Rul) : Prop where
  pri : In31 r.pri
  frm : In31 r.x.frm
  too : In31 r.x.too
  bnd : In31 r.x.bnd
  via : ∀ v ∈ r.x.via, In31 v
  nds : ∀ v ∈ r.x.nds, In31 v
  lks : ∀ v ∈ r.x.lks, In31 v
  cls : ∀ v ∈ r.x.cls, In31 v
  pr : In31 r.m.pr
  sp : In31 r.m.sp
  dp : In31 r.m.dp
  src : ∃ a n : Nat, a < 4294967296 ∧ n ≤ 32 ∧ r.m.sa = maskS a n ∧ r.m.sl = (n : Int)
  dst : ∃ a n : Nat, a < 4294967296 ∧ n ≤ 32 ∧ r.m.da = maskS a n ∧ r.m.dl = (n : Int)
theorem numT_in {t : Tk} {v : Nat} (h : numT t = some v) : In31 (v : Int) := by
  unfold numT at h
  split at h
  · rename_i hh
    have h1 := numS_le hh.2
    simp only [Option.some.injEq] at h
    unfold In31
    omega
  · cases h
theorem num1_in {ts t : List Tk} {v : Nat} (h : num1 ts = .ok (v, t)) : In31 (v : Int) := by
  cases ts with
  | nil => cases h
  | cons a r =>
    simp only [num1] at h
    split at h
    · rename_i h1; cases h; exact numT_in h1
    · cases h
theorem more_in : ∀ {ts t : List Tk} {vs : List Nat}, more ts = .ok (vs, t) → ∀ v ∈ vs, In31 (v : Int) := by
  intro ts
  induction ts with
  | nil => intro t vs h; cases h; intro v hv; simp at hv
  | cons a r ih =>
    intro t vs h
    unfold more at h
    split at h
    · split at h
      · rename_i h1
        split at h
        · rename_i h3
          cases h
          intro v hv
          rw [List.mem_cons] at hv
          rcases hv with rfl | hv
          · exact numT_in h1
          · exact ih h3 v hv
        · cases h
      · cases h
    · cases h; intro v hv; simp at hv
theorem nums1_in {ts t : List Tk} {vs : List Nat} (h : nums1 ts = .ok (vs, t)) : ∀ v ∈ vs.map Int.ofNat, In31 v := by
  unfold nums1 at h
  split at h
  · rename_i h1
    split at h
    · rename_i h2
      cases h
      intro v hv
      simp only [List.map_cons, List.mem_cons, List.mem_map] at hv
      rcases hv with rfl | ⟨u, hu, rfl⟩
      · exact num1_in h1
      · exact more_in h2 u hu
    · cases h
  · cases h
theorem readS_in {l : List UInt8} {p : Nat × Nat} (h : readS l = some p) : ∃ a n : Nat, a < 4294967296 ∧ n ≤ 32 ∧ p.1 = maskS a n ∧ p.2 = n := by
  unfold readS at h
  split at h
  · unfold readNums at h
    split at h
    · rename_i a b c d n _
      split at h
      · cases h
      · rename_i hh
        simp only [not_or, Int.not_lt] at hh
        obtain ⟨ha, hb, hc, hd, hn⟩ := hh
        have h1 := numS_le ha; have h2 := numS_le hb; have h3 := numS_le hc; have h4 := numS_le hd; have h5 := numS_le hn
        simp only [Option.some.injEq] at h
        subst h
        exact ⟨_, _, by omega, by omega, rfl, rfl⟩
    · cases h
  · cases h
theorem pref1_in {ts t : List Tk} {p : Nat × Nat} (h : pref1 ts = .ok (p, t)) : ∃ a n : Nat, a < 4294967296 ∧ n ≤ 32 ∧ p.1 = maskS a n ∧ p.2 = n := by
  cases ts with
  | nil => cases h
  | cons a r =>
    simp only [pref1] at h
    split at h
    · split at h
      · rename_i h1; cases h; exact readS_in h1
      · cases h
    · cases h
theorem clauseI_in {i : Nat} {r r' : Rul} {ts t : List Tk} (hr : NumOk r) (h : clauseI i r ts = .ok (r', t)) : NumOk r' := by
  have hN : ∀ {f : Rul → Nat → Rul}, (∀ v : Nat, In31 (v : Int) → NumOk (f r v)) → withN f r ts = .ok (r', t) → NumOk r' := by
    intro f hf h
    unfold withN at h
    split at h
    · rename_i h1; cases h; exact hf _ (num1_in h1)
    · cases h
  have hL : ∀ {f : Rul → List Int → Rul}, (∀ vs : List Int, (∀ v ∈ vs, In31 v) → NumOk (f r vs)) → withL f r ts = .ok (r', t) → NumOk r' := by
    intro f hf h
    unfold withL at h
    split at h
    · rename_i h1; cases h; exact hf _ (nums1_in h1)
    · cases h
  have hP : ∀ {f : Rul → Nat → Nat → Rul}, (∀ a n a' n' : Nat, a < 4294967296 → n ≤ 32 → a' = maskS a n → n' = n → NumOk (f r a' n')) → withP f r ts = .ok (r', t) → NumOk r' := by
    intro f hf h
    unfold withP at h
    split at h
    · rename_i h1; cases h
      obtain ⟨a, n, h1, h2, h3, h4⟩ := pref1_in h1
      exact hf a n _ _ h1 h2 h3 h4
    · cases h
  unfold clauseI at h
  split at h
  · exact hL (fun v hv => ⟨hr.pri, hr.frm, hr.too, hr.bnd, hv, hr.nds, hr.lks, hr.cls, hr.pr, hr.sp, hr.dp, hr.src, hr.dst⟩) h
  · exact hL (fun v hv => ⟨hr.pri, hr.frm, hr.too, hr.bnd, hr.via, hv, hr.lks, hr.cls, hr.pr, hr.sp, hr.dp, hr.src, hr.dst⟩) h
  · exact hL (fun v hv => ⟨hr.pri, hr.frm, hr.too, hr.bnd, hr.via, hr.nds, hv, hr.cls, hr.pr, hr.sp, hr.dp, hr.src, hr.dst⟩) h
  · exact hL (fun v hv => ⟨hr.pri, hr.frm, hr.too, hr.bnd, hr.via, hr.nds, hr.lks, hv, hr.pr, hr.sp, hr.dp, hr.src, hr.dst⟩) h
  · exact hN (fun v hv => ⟨hr.pri, hr.frm, hr.too, hv, hr.via, hr.nds, hr.lks, hr.cls, hr.pr, hr.sp, hr.dp, hr.src, hr.dst⟩) h
  · exact hP (fun a n a' n' h1 h2 h3 h4 => ⟨hr.pri, hr.frm, hr.too, hr.bnd, hr.via, hr.nds, hr.lks, hr.cls, hr.pr, hr.sp, hr.dp, ⟨a, n, h1, h2, h3, by rw [h4]⟩, hr.dst⟩) h
  · exact hP (fun a n a' n' h1 h2 h3 h4 => ⟨hr.pri, hr.frm, hr.too, hr.bnd, hr.via, hr.nds, hr.lks, hr.cls, hr.pr, hr.sp, hr.dp, hr.src, ⟨a, n, h1, h2, h3, by rw [h4]⟩⟩) h
  · exact hN (fun v hv => ⟨hr.pri, hr.frm, hr.too, hr.bnd, hr.via, hr.nds, hr.lks, hr.cls, hv, hr.sp, hr.dp, hr.src, hr.dst⟩) h
  · exact hN (fun v hv => ⟨hr.pri, hr.frm, hr.too, hr.bnd, hr.via, hr.nds, hr.lks, hr.cls, hr.pr, hv, hr.dp, hr.src, hr.dst⟩) h
  · exact hN (fun v hv => ⟨hr.pri, hr.frm, hr.too, hr.bnd, hr.via, hr.nds, hr.lks, hr.cls, hr.pr, hr.sp, hv, hr.src, hr.dst⟩) h
  · cases h; exact ⟨hr.pri, hr.frm, hr.too, hr.bnd, hr.via, hr.nds, hr.lks, hr.cls, hr.pr, hr.sp, hr.dp, hr.src, hr.dst⟩
  · exact hN (fun v hv => ⟨hr.pri, hv, hr.too, hr.bnd, hr.via, hr.nds, hr.lks, hr.cls, hr.pr, hr.sp, hr.dp, hr.src, hr.dst⟩) h
  · exact hN (fun v hv => ⟨hr.pri, hr.frm, hv, hr.bnd, hr.via, hr.nds, hr.lks, hr.cls, hr.pr, hr.sp, hr.dp, hr.src, hr.dst⟩) h
theorem clausesP_in : ∀ (f : Nat) {had had' : List (List UInt8)} {r r' : Rul} {ts t : List Tk}, NumOk r → clausesP f had r ts = .ok (had', r', t) → NumOk r' := by
  intro f
  induction f with
  | zero => intro had had' r r' ts t hr h; cases h; exact hr
  | succ f ih =>
    intro had had' r r' ts t hr h
    cases ts with
    | nil => cases h; exact hr
    | cons a ts =>
      unfold clausesP at h
      split at h
      · split at h
        · cases h
        · split at h
          · rename_i h3
            exact ih (clauseI_in hr h3) h
          · cases h
      · cases h; exact hr
theorem ruleP_in {ts t : List Tk} {r : Rul} (h : ruleP ts = .ok (r, t)) : NumOk r := by
  cases ts with
  | nil => cases h
  | cons a ts =>
    simp only [ruleP] at h
    split at h
    · cases ts with
      | nil => cases h
      | cons b ts =>
        simp only [nameP] at h
        split at h
        · split at h
          · rename_i h1
            split at h
            · rename_i x h2
              obtain ⟨had, r', t'⟩ := x
              have z : In31 0 := ⟨by omega, by omega⟩
              have hn : ∃ a n : Nat, a < 4294967296 ∧ n ≤ 32 ∧ (0 : Nat) = maskS a n ∧ (0 : Int) = (n : Int) := ⟨0, 0, by omega, by omega, by rw [maskS_zero (by omega)], rfl⟩
              have := clausesP_in _ (r := { noRul with name := b.2, pri := _ }) ⟨num1_in h1, z, z, z, fun v hv => by simp [noRul, noWnt] at hv, fun v hv => by simp [noRul, noWnt] at hv, fun v hv => by simp [noRul, noWnt] at hv, fun v hv => by simp [noRul, noWnt] at hv, z, z, z, hn, hn⟩ h2
              cases t' with
              | nil => cases h
              | cons c t' =>
                simp only [shutR] at h
                split at h
                · cases h; exact this
                · cases h
            · cases h
          · cases h
        · cases h
    · cases h
/-- What Parse holds while it reads rules. -/
structure PLp (s : List UInt8) (A : Option Addr) (n c : Nat) (l : List Tok) (w : World) (BP : Nat) (v : Value) (lg : Int) (k : Nat) (done : List (Nat × Rul)) (qs : List (Rul × WSl)) (w' : World) : Prop where
  bel : Below w.heap.size w w'
  pst : PSt BP A n c l k false w'
  own : w'.ownsRow (BP + 1) 42 17 v qs.length (rrow qs)
  lists : ∀ q ∈ qs, ROwn w' q.1.x q.2
  nums : ∀ q ∈ qs, NumOk q.1
  same : done.map (·.2) = qs.map (·.1)
  few : qs.length ≤ k
  rules : rulesA (Kd l 0) = contR done (rulesA (Kd l k))
  long : lg = longS s l done
theorem own_larg {w : World} {A : Option Addr} {n c : Nat} {l : List Int} (h : w.ownsRow 0 3 1 (.slice A n c) n (icells l)) (hr : ∀ x ∈ l, -9223372036854775808 ≤ x ∧ x ≤ 9223372036854775807) : LArg w A n c l := by
  have hl : l.length = n := by have := h.1; rw [icells_len] at this; omega
  refine ⟨own_ri h hl, ?_, ?_, ?_, hr⟩
  · rcases h.2 with ⟨h1, h2⟩ | ⟨g, cap, cur, h1, _, _, h2, _⟩
    · omega
    · simp only [Value.slice.injEq] at h1; omega
  · intro hA
    subst hA
    rcases h.2 with ⟨h1, h2⟩ | ⟨g, cap, cur, h1, _⟩
    · simp only [Value.slice.injEq] at h1; exact ⟨h2, h1.2.2⟩
    · simp at h1
  · rcases h.2 with ⟨h1, h2⟩ | ⟨g, cap, cur, h1, _, _, h2, h3, _⟩
    · rw [h2]; unfold maxLen; omega
    · simp only [Value.slice.injEq] at h1; omega
/-- Numbers that fit. -/
def Fits (x : Wnt) : Prop := (-9223372036854775808 ≤ x.bnd ∧ x.bnd ≤ 9223372036854775807) ∧ (∀ v ∈ x.via, -9223372036854775808 ≤ v ∧ v ≤ 9223372036854775807) ∧ (∀ v ∈ x.nds, -9223372036854775808 ≤ v ∧ v ≤ 9223372036854775807) ∧ (∀ v ∈ x.lks, -9223372036854775808 ≤ v ∧ v ≤ 9223372036854775807) ∧ (∀ v ∈ x.cls, -9223372036854775808 ≤ v ∧ v ≤ 9223372036854775807)
theorem fits_of {r : Rul} (h : NumOk r) : Fits r.x := by
  have k : ∀ {v : Int}, In31 v → -9223372036854775808 ≤ v ∧ v ≤ 9223372036854775807 := fun h => ⟨by have := h.1; omega, by have := h.2; omega⟩
  exact ⟨k h.bnd, fun v hv => k (h.via v hv), fun v hv => k (h.nds v hv), fun v hv => k (h.lks v hv), fun v hv => k (h.cls v hv)⟩
theorem rown_warg {w : World} {x : Wnt} {y : WSl} (h : ROwn w x y) (hf : Fits x) : WArg w x y := ⟨own_larg h.via hf.2.1, own_larg h.nds hf.2.2.1, own_larg h.lks hf.2.2.2.1, own_larg h.cls hf.2.2.2.2, hf.1⟩
theorem own_rrul {w : World} {base : Nat} {A : Option Addr} {c : Nat} {qs : List (Rul × WSl)} (h : w.ownsRow base 42 17 (.slice A qs.length c) qs.length (rrow qs)) (hl : ∀ q ∈ qs, WArg w q.1.x q.2) : RRul w A qs.length c qs := by
  refine ⟨rfl, ?_, ?_, fun hn => ?_, hl⟩
  · rcases h.2 with ⟨h1, h2⟩ | ⟨g, cap, cur, h1, _, _, h2, _⟩
    · omega
    · simp only [Value.slice.injEq] at h1; omega
  · intro hA
    subst hA
    rcases h.2 with ⟨h1, h2⟩ | ⟨g, cap, cur, h1, _⟩
    · simp only [Value.slice.injEq] at h1; exact ⟨h2, h1.2.2⟩
    · simp at h1
  · rcases h.2 with ⟨_, h2⟩ | ⟨g, cap, cur, h1, _, hg, _⟩
    · omega
    · simp only [Value.slice.injEq] at h1
      obtain ⟨rfl, _, rfl⟩ := h1
      refine ⟨g, 0, rfl, pst_lt hg, fun i q j v hq hv => ?_⟩
      have k1 := h.cells (g := g) rfl _ _ (rrow_at hq hv)
      rw [Go.WideShapes.add_plain] at k1
      simpa [Nat.add_assoc] using k1
end Go.Proofs.YtcmkcloapenpnaaGreatDoor
