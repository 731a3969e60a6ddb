/- Rules written and read again, plainly: every rule that is fair. -/
import Derived.Test.YtcmkcloapenpnaaDoorPlL
namespace Go.Proofs.YtcmkcloapenpnaaDoor
open Go.RowKit
set_option maxHeartbeats 3200000
set_option maxRecDepth 100000
def chN (i : Nat) (v : Int) (g : Rul → Nat → Rul) : Chk := ⟨i, [(2, decL v.toNat)], fun q => g q v.toNat⟩
def chL (i : Nat) (L : List Int) (g : Rul → List Int → Rul) : Chk := ⟨i, L.map (fun v => ((2, decL v.toNat) : Tk)), fun q => g q L⟩
def chP (i : Nat) (a : Nat) (n : Int) (g : Rul → Nat → Nat → Rul) : Chk := ⟨i, [(2, showS a n)], fun q => g q a n.toNat⟩
theorem chN_ok {i : Nat} {v : Int} {g : Rul → Nat → Rul} (hi : i < 13) (h : In31 v) (hc : ∀ q ts, clauseI i q ts = withN g q ts) : ChkOk (chN i v g) := by
  refine ⟨hi, fun r t rest _ => ?_⟩
  show clauseI i r _ = _
  rw [hc]
  unfold withN
  show (match num1 ((2, decL v.toNat) :: t :: rest) with
    | .ok (v, t) => Except.ok (g r v, t)
    | .error e => .error e) = _
  simp only [num1, numT_dec h]
  rfl
theorem chL_ok {i : Nat} {L : List Int} {g : Rul → List Int → Rul} (hi : i < 13) (h : ∀ v ∈ L, In31 v) (hL : L ≠ []) (hc : ∀ q ts, clauseI i q ts = withL g q ts) : ChkOk (chL i L g) := by
  refine ⟨hi, fun r t rest ht => ?_⟩
  show clauseI i r _ = _
  rw [hc]
  unfold withL
  show (match nums1 (L.map (fun v => ((2, decL v.toNat) : Tk)) ++ t :: rest) with
    | .ok (v, t) => Except.ok (g r (v.map Int.ofNat), t)
    | .error e => .error e) = _
  rw [nums1_dec L t rest h ht hL]
  simp only [back_ints h]
  rfl
theorem mask_mask (a n : Nat) : maskS (maskS a n) n = maskS a n := by
  unfold maskS
  rw [Nat.mul_div_cancel _ (Nat.two_pow_pos _)]
theorem chP_ok {i : Nat} {a : Nat} {n : Int} {g : Rul → Nat → Nat → Rul} (hi : i < 13) (h : ∃ a' m : Nat, a' < 4294967296 ∧ m ≤ 32 ∧ a = maskS a' m ∧ n = (m : Int)) (hc : ∀ q ts, clauseI i q ts = withP g q ts) : ChkOk (chP i a n g) := by
  refine ⟨hi, fun r t rest _ => ?_⟩
  obtain ⟨a', m, h1, h2, rfl, rfl⟩ := h
  have hr := read_show (a := maskS a' m) (n := m) (maskS_lt h1) h2
  rw [mask_mask] at hr
  show clauseI i r _ = _
  rw [hc]
  unfold withP
  show (match pref1 ((2, showS (maskS a' m) (m : Int)) :: t :: rest) with
    | .ok (v, t) => Except.ok (g r v.1 v.2, t)
    | .error e => .error e) = _
  simp only [pref1, if_pos, hr]
  rfl
def opt (b : Bool) (c : Chk) : List Chk := if b then [c] else []
def setFrm (r : Rul) (v : Nat) : Rul := { r with x := { r.x with frm := (v : Int) } }
def setToo (r : Rul) (v : Nat) : Rul := { r with x := { r.x with too := (v : Int) } }
def setVia (r : Rul) (v : List Int) : Rul := { r with x := { r.x with via := v } }
def setNds (r : Rul) (v : List Int) : Rul := { r with x := { r.x with nds := v } }
def setLks (r : Rul) (v : List Int) : Rul := { r with x := { r.x with lks := v } }
def setCls (r : Rul) (v : List Int) : Rul := { r with x := { r.x with cls := v } }
def setBnd (r : Rul) (v : Nat) : Rul := { r with x := { r.x with bnd := (v : Int) } }
def setSrc (r : Rul) (a n : Nat) : Rul := { r with m := { r.m with sa := a, sl := (n : Int) } }
def setDst (r : Rul) (a n : Nat) : Rul := { r with m := { r.m with da := a, dl := (n : Int) } }
def setPr (r : Rul) (v : Nat) : Rul := { r with m := { r.m with pr := (v : Int) } }
def setSp (r : Rul) (v : Nat) : Rul := { r with m := { r.m with sp := (v : Int) } }
def setDp (r : Rul) (v : Nat) : Rul := { r with m := { r.m with dp := (v : Int) } }
def chS : Chk := ⟨10, [], fun r => { r with strict := true }⟩
theorem chS_ok : ChkOk chS := ⟨by decide, fun _ _ _ _ => rfl⟩
/-- A rule's clauses, as Show has them. -/
def chks (r : Rul) : List Chk :=
  [chN 11 r.x.frm setFrm, chN 12 r.x.too setToo] ++ opt (!r.x.via.isEmpty) (chL 0 r.x.via setVia) ++ opt (!r.x.nds.isEmpty) (chL 1 r.x.nds setNds) ++ opt (!r.x.lks.isEmpty) (chL 2 r.x.lks setLks) ++ opt (!r.x.cls.isEmpty) (chL 3 r.x.cls setCls)
    ++ opt (decide (0 < r.x.bnd)) (chN 4 r.x.bnd setBnd) ++ opt (decide (0 < r.m.sl)) (chP 5 r.m.sa r.m.sl setSrc) ++ opt (decide (0 < r.m.dl)) (chP 6 r.m.da r.m.dl setDst) ++ opt (decide (0 < r.m.pr)) (chN 7 r.m.pr setPr) ++ opt (decide (0 < r.m.sp)) (chN 8 r.m.sp setSp) ++ opt (decide (0 < r.m.dp)) (chN 9 r.m.dp setDp) ++ opt r.strict chS
theorem opt_ok {b : Bool} {c : Chk} (h : b = true → ChkOk c) : ∀ d ∈ opt b c, ChkOk d := by
  intro d hd
  unfold opt at hd
  split at hd
  · rw [List.mem_singleton] at hd; subst hd; exact h ‹_›
  · simp at hd
theorem chks_ok {r : Rul} (h : NumOk r) : ∀ c ∈ chks r, ChkOk c := by
  have ne : ∀ {L : List Int}, (!L.isEmpty) = true → L ≠ [] := fun hb e => by rw [e] at hb; simp at hb
  intro c hc
  unfold chks at hc
  simp only [List.mem_append] at hc
  rcases hc with (((((((((((hc | hc) | hc) | hc) | hc) | hc) | hc) | hc) | hc) | hc) | hc) | hc)
  · simp only [List.mem_cons, List.not_mem_nil, or_false] at hc
    rcases hc with rfl | rfl
    · exact chN_ok (by decide) h.frm fun _ _ => rfl
    · exact chN_ok (by decide) h.too fun _ _ => rfl
  · exact opt_ok (fun hb => chL_ok (by decide) h.via (ne hb) fun _ _ => rfl) c hc
  · exact opt_ok (fun hb => chL_ok (by decide) h.nds (ne hb) fun _ _ => rfl) c hc
  · exact opt_ok (fun hb => chL_ok (by decide) h.lks (ne hb) fun _ _ => rfl) c hc
  · exact opt_ok (fun hb => chL_ok (by decide) h.cls (ne hb) fun _ _ => rfl) c hc
  · exact opt_ok (fun _ => chN_ok (by decide) h.bnd fun _ _ => rfl) c hc
  · exact opt_ok (fun _ => chP_ok (by decide) h.src fun _ _ => rfl) c hc
  · exact opt_ok (fun _ => chP_ok (by decide) h.dst fun _ _ => rfl) c hc
  · exact opt_ok (fun _ => chN_ok (by decide) h.pr fun _ _ => rfl) c hc
  · exact opt_ok (fun _ => chN_ok (by decide) h.sp fun _ _ => rfl) c hc
  · exact opt_ok (fun _ => chN_ok (by decide) h.dp fun _ _ => rfl) c hc
  · exact opt_ok (fun _ => chS_ok) c hc
theorem opt_sub (b : Bool) (c : Chk) : ((opt b c).map (·.i)).Sublist [c.i] := by
  unfold opt
  split
  · exact List.Sublist.refl _
  · exact List.nil_sublist _
theorem chks_nodup (r : Rul) : ((chks r).map (·.i)).Nodup := by
  have h : ((chks r).map (·.i)).Sublist ([11, 12] ++ [0] ++ [1] ++ [2] ++ [3] ++ [4] ++ [5] ++ [6] ++ [7] ++ [8] ++ [9] ++ [10]) := by
    unfold chks
    simp only [List.map_append]
    refine List.Sublist.append (List.Sublist.append (List.Sublist.append (List.Sublist.append (List.Sublist.append (List.Sublist.append (List.Sublist.append (List.Sublist.append (List.Sublist.append (List.Sublist.append (List.Sublist.append (List.Sublist.refl _) ?_) ?_) ?_) ?_) ?_) ?_) ?_) ?_) ?_) ?_) ?_ <;> exact opt_sub _ _
  exact h.nodup (by decide)
theorem opt_fold (b : Bool) (c : Chk) (q : Rul) : (opt b c).foldl (fun r c => c.f r) q = if b then c.f q else q := by
  unfold opt
  split <;> rfl
def baseR (r : Rul) : Rul := { noRul with name := r.name, pri := r.pri }
theorem chks_fold {r : Rul} (h : NumOk r) : (chks r).foldl (fun r c => c.f r) (baseR r) = r := by
  obtain ⟨name, pri, ⟨sa, sl, da, dl, pr, sp, dp⟩, ⟨frm, too, bnd, via, nds, lks, cls⟩, strict⟩ := r
  obtain ⟨h1, h2, h3, h4, h5, h6, h7, h8, h9, h10, h11, ⟨a, n, ha, hn, hs1, hs2⟩, ⟨a', n', ha', hn', hs1', hs2'⟩⟩ := h
  simp only at h1 h2 h3 h4 h9 h10 h11 hs1 hs2 hs1' hs2'
  unfold In31 at h2 h3 h4 h9 h10 h11
  have z1 : ∀ v : Int, 0 ≤ v → ((v.toNat : Nat) : Int) = v := fun v hv => Int.toNat_of_nonneg hv
  have s0 : ¬ 0 < sl → sl = 0 ∧ sa = 0 := fun hh => by
    have h0 : n = 0 := by omega
    subst h0
    exact ⟨by omega, by rw [hs1]; exact maskS_zero ha⟩
  have s1 : ¬ 0 < dl → dl = 0 ∧ da = 0 := fun hh => by
    have h0 : n' = 0 := by omega
    subst h0
    exact ⟨by omega, by rw [hs1']; exact maskS_zero ha'⟩
  have ie : ∀ L : List Int, (!L.isEmpty) = false → L = [] := fun L hb => by simpa using hb
  have q2 := z1 frm h2.1; have q3 := z1 too h3.1
  unfold chks
  simp only [List.foldl_append, opt_fold]
  show (if strict then _ else _) = _
  have e1 : ([chN 11 frm setFrm, chN 12 too setToo] : List Chk).foldl (fun r c => c.f r) (baseR ⟨name, pri, ⟨sa, sl, da, dl, pr, sp, dp⟩, ⟨frm, too, bnd, via, nds, lks, cls⟩, strict⟩) = ⟨name, pri, noMat, ⟨frm, too, 0, [], [], [], []⟩, false⟩ := by
    simp only [List.foldl_cons, List.foldl_nil, chN, setFrm, setToo, baseR, noRul, noWnt, q2, q3]
  rw [e1]
  have e2 : (if (!via.isEmpty) = true then (chL 0 via setVia).f ⟨name, pri, noMat, ⟨frm, too, 0, [], [], [], []⟩, false⟩ else ⟨name, pri, noMat, ⟨frm, too, 0, [], [], [], []⟩, false⟩) = (⟨name, pri, noMat, ⟨frm, too, 0, via, [], [], []⟩, false⟩ : Rul) := by
    split
    · rfl
    · rename_i hb; rw [ie via (by simpa using hb)]
  rw [e2]
  have e3 : (if (!nds.isEmpty) = true then (chL 1 nds setNds).f ⟨name, pri, noMat, ⟨frm, too, 0, via, [], [], []⟩, false⟩ else ⟨name, pri, noMat, ⟨frm, too, 0, via, [], [], []⟩, false⟩) = (⟨name, pri, noMat, ⟨frm, too, 0, via, nds, [], []⟩, false⟩ : Rul) := by
    split
    · rfl
    · rename_i hb; rw [ie nds (by simpa using hb)]
  rw [e3]
  have e4 : (if (!lks.isEmpty) = true then (chL 2 lks setLks).f ⟨name, pri, noMat, ⟨frm, too, 0, via, nds, [], []⟩, false⟩ else ⟨name, pri, noMat, ⟨frm, too, 0, via, nds, [], []⟩, false⟩) = (⟨name, pri, noMat, ⟨frm, too, 0, via, nds, lks, []⟩, false⟩ : Rul) := by
    split
    · rfl
    · rename_i hb; rw [ie lks (by simpa using hb)]
  rw [e4]
  have e5 : (if (!cls.isEmpty) = true then (chL 3 cls setCls).f ⟨name, pri, noMat, ⟨frm, too, 0, via, nds, lks, []⟩, false⟩ else ⟨name, pri, noMat, ⟨frm, too, 0, via, nds, lks, []⟩, false⟩) = (⟨name, pri, noMat, ⟨frm, too, 0, via, nds, lks, cls⟩, false⟩ : Rul) := by
    split
    · rfl
    · rename_i hb; rw [ie cls (by simpa using hb)]
  rw [e5]
  have e6 : (if decide (0 < bnd) = true then (chN 4 bnd setBnd).f ⟨name, pri, noMat, ⟨frm, too, 0, via, nds, lks, cls⟩, false⟩ else ⟨name, pri, noMat, ⟨frm, too, 0, via, nds, lks, cls⟩, false⟩) = (⟨name, pri, noMat, ⟨frm, too, bnd, via, nds, lks, cls⟩, false⟩ : Rul) := by
    split
    · show (⟨name, pri, noMat, ⟨frm, too, ((bnd.toNat : Nat) : Int), via, nds, lks, cls⟩, false⟩ : Rul) = _
      rw [z1 bnd h4.1]
    · rename_i hb
      obtain rfl : bnd = 0 := by have := h4.1; simp at hb; omega
      rfl
  rw [e6]
  have e7 : (if decide (0 < sl) = true then (chP 5 sa sl setSrc).f ⟨name, pri, noMat, ⟨frm, too, bnd, via, nds, lks, cls⟩, false⟩ else ⟨name, pri, noMat, ⟨frm, too, bnd, via, nds, lks, cls⟩, false⟩) = (⟨name, pri, ⟨sa, sl, 0, 0, 0, 0, 0⟩, ⟨frm, too, bnd, via, nds, lks, cls⟩, false⟩ : Rul) := by
    split
    · rename_i hb
      show (⟨name, pri, ⟨sa, ((sl.toNat : Nat) : Int), 0, 0, 0, 0, 0⟩, ⟨frm, too, bnd, via, nds, lks, cls⟩, false⟩ : Rul) = _
      rw [z1 sl (by simp at hb; omega)]
    · rename_i hb
      obtain ⟨rfl, rfl⟩ := s0 (by simpa using hb)
      rfl
  rw [e7]
  have e8 : (if decide (0 < dl) = true then (chP 6 da dl setDst).f ⟨name, pri, ⟨sa, sl, 0, 0, 0, 0, 0⟩, ⟨frm, too, bnd, via, nds, lks, cls⟩, false⟩ else ⟨name, pri, ⟨sa, sl, 0, 0, 0, 0, 0⟩, ⟨frm, too, bnd, via, nds, lks, cls⟩, false⟩) = (⟨name, pri, ⟨sa, sl, da, dl, 0, 0, 0⟩, ⟨frm, too, bnd, via, nds, lks, cls⟩, false⟩ : Rul) := by
    split
    · rename_i hb
      show (⟨name, pri, ⟨sa, sl, da, ((dl.toNat : Nat) : Int), 0, 0, 0⟩, ⟨frm, too, bnd, via, nds, lks, cls⟩, false⟩ : Rul) = _
      rw [z1 dl (by simp at hb; omega)]
    · rename_i hb
      obtain ⟨rfl, rfl⟩ := s1 (by simpa using hb)
      rfl
  rw [e8]
  have e9 : (if decide (0 < pr) = true then (chN 7 pr setPr).f ⟨name, pri, ⟨sa, sl, da, dl, 0, 0, 0⟩, ⟨frm, too, bnd, via, nds, lks, cls⟩, false⟩ else ⟨name, pri, ⟨sa, sl, da, dl, 0, 0, 0⟩, ⟨frm, too, bnd, via, nds, lks, cls⟩, false⟩) = (⟨name, pri, ⟨sa, sl, da, dl, pr, 0, 0⟩, ⟨frm, too, bnd, via, nds, lks, cls⟩, false⟩ : Rul) := by
    split
    · show (⟨name, pri, ⟨sa, sl, da, dl, ((pr.toNat : Nat) : Int), 0, 0⟩, ⟨frm, too, bnd, via, nds, lks, cls⟩, false⟩ : Rul) = _
      rw [z1 pr h9.1]
    · rename_i hb
      obtain rfl : pr = 0 := by have := h9.1; simp at hb; omega
      rfl
  rw [e9]
  have e10 : (if decide (0 < sp) = true then (chN 8 sp setSp).f ⟨name, pri, ⟨sa, sl, da, dl, pr, 0, 0⟩, ⟨frm, too, bnd, via, nds, lks, cls⟩, false⟩ else ⟨name, pri, ⟨sa, sl, da, dl, pr, 0, 0⟩, ⟨frm, too, bnd, via, nds, lks, cls⟩, false⟩) = (⟨name, pri, ⟨sa, sl, da, dl, pr, sp, 0⟩, ⟨frm, too, bnd, via, nds, lks, cls⟩, false⟩ : Rul) := by
    split
    · show (⟨name, pri, ⟨sa, sl, da, dl, pr, ((sp.toNat : Nat) : Int), 0⟩, ⟨frm, too, bnd, via, nds, lks, cls⟩, false⟩ : Rul) = _
      rw [z1 sp h10.1]
    · rename_i hb
      obtain rfl : sp = 0 := by have := h10.1; simp at hb; omega
      rfl
  rw [e10]
  have e11 : (if decide (0 < dp) = true then (chN 9 dp setDp).f ⟨name, pri, ⟨sa, sl, da, dl, pr, sp, 0⟩, ⟨frm, too, bnd, via, nds, lks, cls⟩, false⟩ else ⟨name, pri, ⟨sa, sl, da, dl, pr, sp, 0⟩, ⟨frm, too, bnd, via, nds, lks, cls⟩, false⟩) = (⟨name, pri, ⟨sa, sl, da, dl, pr, sp, dp⟩, ⟨frm, too, bnd, via, nds, lks, cls⟩, false⟩ : Rul) := by
    split
    · show (⟨name, pri, ⟨sa, sl, da, dl, pr, sp, ((dp.toNat : Nat) : Int)⟩, ⟨frm, too, bnd, via, nds, lks, cls⟩, false⟩ : Rul) = _
      rw [z1 dp h11.1]
    · rename_i hb
      obtain rfl : dp = 0 := by have := h11.1; simp at hb; omega
      rfl
  rw [e11]
  cases strict <;> rfl
def spell (ts : List Tk) : List UInt8 := ts.flatMap (fun t => 32 :: t.2)
theorem spell_app (a b : List Tk) : spell (a ++ b) = spell a ++ spell b := List.flatMap_append
theorem spell_opt {b : Bool} {c : Chk} {s : List UInt8} (h : b = true → spell c.toks = s) : spell ((opt b c).flatMap Chk.toks) = if b then s else [] := by
  unfold opt
  split
  · rename_i hb
    rw [List.flatMap_cons, List.flatMap_nil, List.append_nil]
    exact h hb
  · rfl
theorem spell_N (i : Nat) (v : Int) (g : Rul → Nat → Rul) : spell (chN i v g).toks = ([32] ++ wordL i ++ [32]) ++ decL v.toNat := by
  simp [spell, Chk.toks, chN]
theorem spell_P (i : Nat) (a : Nat) (n : Int) (g : Rul → Nat → Nat → Rul) : spell (chP i a n g).toks = [32] ++ wordL i ++ [32] ++ showS a n := by
  simp [spell, Chk.toks, chP]
theorem spell_L (i : Nat) (L : List Int) (g : Rul → List Int → Rul) : spell (chL i L g).toks = ([32] ++ wordL i) ++ L.flatMap dig1 := by
  simp only [spell, Chk.toks, chL, List.flatMap_cons, List.flatMap_map]
  congr 1
theorem optN_show (i : Nat) (v : Int) (g : Rul → Nat → Rul) : spell ((opt (decide (0 < v)) (chN i v g)).flatMap Chk.toks) = showN (wordL i) v := by
  rw [spell_opt (fun _ => spell_N i v g)]
  unfold showN
  by_cases h : v ≤ 0
  · rw [if_pos h, if_neg (by simp; omega)]
  · rw [if_neg h, if_pos (by simp; omega)]
theorem optL_show (i : Nat) (L : List Int) (g : Rul → List Int → Rul) : spell ((opt (!L.isEmpty) (chL i L g)).flatMap Chk.toks) = showLs (wordL i) L := by
  rw [spell_opt (fun _ => spell_L i L g)]
  unfold showLs
  cases L <;> simp
theorem optP_show (i : Nat) (a : Nat) (n : Int) (g : Rul → Nat → Nat → Rul) : spell ((opt (decide (0 < n)) (chP i a n g)).flatMap Chk.toks) = prefR (wordL i) a n := by
  rw [spell_opt (fun _ => spell_P i a n g)]
  unfold prefR
  by_cases h : 0 < n
  · rw [if_pos h, if_pos (by simp; omega)]
  · rw [if_neg h, if_neg (by simp; omega)]
/-- The tokens behind 'rule'. -/
def restR (r : Rul) : List Tk := (1, r.name) :: (2, decL r.pri.toNat) :: (chks r).flatMap Chk.toks
theorem show_line (r : Rul) : showR r = lineL (1, ruleW) (restR r) := by
  have h : spell ((chks r).flatMap Chk.toks) = [32, 102, 114, 111, 109, 32] ++ decL r.x.frm.toNat ++ [32, 116, 111, 32] ++ decL r.x.too.toNat ++ listR r ++ prefR (wordL 5) r.m.sa r.m.sl ++ prefR (wordL 6) r.m.da r.m.dl ++ portR r ++ (if r.strict then [32] ++ wordL 10 else []) := by
    unfold chks listR portR
    simp only [List.flatMap_append, spell_app, optN_show, optL_show, optP_show]
    rw [spell_opt (s := [32] ++ wordL 10) (fun _ => by simp [spell, Chk.toks, chS])]
    have e : spell (([chN 11 r.x.frm setFrm, chN 12 r.x.too setToo] : List Chk).flatMap Chk.toks) = [32, 102, 114, 111, 109, 32] ++ decL r.x.frm.toNat ++ [32, 116, 111, 32] ++ decL r.x.too.toNat := by
      simp [spell, Chk.toks, chN, wordL]
    rw [e]
    simp only [List.append_assoc]
  have e2 : lineL (1, ruleW) (restR r) = ruleW ++ (32 :: r.name) ++ (32 :: decL r.pri.toNat) ++ spell ((chks r).flatMap Chk.toks) ++ [59, 10] := by
    simp [lineL, restR, spell]
  rw [e2, h]
  unfold showR headR
  simp [ruleW]
/-- A name that is a word. -/
def Named (r : Rul) : Prop := (∃ c s, r.name = c :: s ∧ isLt c = true) ∧ ∀ x ∈ r.name, isWd x = true
theorem num_tk (n : Nat) : TkOk (2, decL n) := by
  refine .inr ⟨rfl, ?_, fun x hx => ?_⟩
  · cases h : decL n with
    | nil => exact absurd h (decL_ne n)
    | cons c r =>
      refine ⟨c, r, rfl, ?_⟩
      have := decL_digs n c (by rw [h]; simp)
      exact this
  · have := decL_digs n x hx
    unfold isNm
    rw [show isDg x = true from this]; rfl
theorem word_tk (i : Nat) (hi : i < 13) : TkOk (1, wordL i) := by
  have h : ∀ i, i < 13 → (∃ c ∈ (wordL i).head?, isLt c = true) ∧ (wordL i).all isWd = true := by decide
  obtain ⟨⟨c, hc, h1⟩, h2⟩ := h i hi
  refine .inl ⟨rfl, ?_, fun x hx => (List.all_eq_true.1 h2) x hx⟩
  cases hw : wordL i with
  | nil => rw [hw] at hc; simp at hc
  | cons d r =>
    rw [hw] at hc
    simp at hc
    subst hc
    exact ⟨_, _, rfl, h1⟩
end Go.Proofs.YtcmkcloapenpnaaDoor
