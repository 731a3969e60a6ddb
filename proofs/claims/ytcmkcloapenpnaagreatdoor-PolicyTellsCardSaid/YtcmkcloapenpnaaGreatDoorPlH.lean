/- The reference's Parse, walked. -/
import Derived.Test.YtcmkcloapenpnaaGreatDoorPlG
import Derived.OwnWalk
import Derived.Deep.CutRange
namespace Go.Proofs.YtcmkcloapenpnaaGreatDoor
open Go.RowKit
set_option maxHeartbeats 6400000
set_option maxRecDepth 100000
theorem scan_pos : ∀ (f i : Nat) (s : List UInt8), ∀ t ∈ (scan f i s).1, 0 ≤ t.pos := by
  intro f
  induction f with
  | zero => intro i s t h; simp [scan] at h
  | succ f ih =>
    intro i s t h
    cases s with
    | nil => simp [scan] at h
    | cons c r =>
      unfold scan at h
      split at h
      · exact ih _ _ t h
      · split at h
        · exact ih _ _ t h
        · split at h
          · rw [List.mem_cons] at h
            rcases h with rfl | h
            · exact Int.natCast_nonneg _
            · exact ih _ _ t h
          · split at h
            · rw [List.mem_cons] at h
              rcases h with rfl | h
              · exact Int.natCast_nonneg _
              · exact ih _ _ t h
            · split at h
              · rw [List.mem_cons] at h
                rcases h with rfl | h
                · exact Int.natCast_nonneg _
                · exact ih _ _ t h
              · simp at h
theorem split_pos {s : List UInt8} {l : List Tok} {a : Int} (h : splitS s = (l, a, 0)) : ∀ t ∈ l, 0 ≤ t.pos := by
  unfold splitS at h
  split at h
  · simp at h
  · split at h
    · rename_i l' h2
      simp only [Prod.mk.injEq] at h
      rw [← h.1]
      intro t ht
      have h3 : t ∈ (scan (s.drop 0).length 0 (s.drop 0)).1 := by
        show t ∈ (scanAt s 0).1
        rw [h2]; exact ht
      exact scan_pos _ _ _ t h3
    · simp at h
theorem long_on {s : List UInt8} {l : List Tok} {done : List (Nat × Rul)} {k : Nat} {r : Rul} {t : Tok} (hk : l[k]? = some t) : longS s l (done ++ [(l.length - k, r)]) = if done.length = 20 then t.pos else longS s l done := by
  have hlt := (List.getElem?_eq_some_iff.1 hk).1
  unfold longS
  rcases Nat.lt_trichotomy done.length 20 with h | h | h
  · rw [if_neg (by omega), List.getElem?_eq_none (by simp; omega), List.getElem?_eq_none (by omega)]
  · rw [if_pos h, List.getElem?_append_right (by omega), h]
    simp only [Nat.sub_self, List.getElem?_cons_zero]
    unfold posAt
    rw [show l.length - (l.length - k) = k by omega, hk]
  · rw [if_neg (by omega), List.getElem?_append_left (by omega)]
theorem parse_bad {s : List UInt8} {l : List Tok} {a : Int} {k : Nat} (h : splitS s = (l, a, 0)) (hr : rulesA (Kd l 0) = .error (Kd l k)) (hk : k ≤ l.length) : parseS s = ([], posAt s l k, 3) := by
  unfold parseS
  rw [h]
  simp only [if_pos]
  rw [show l.map era = Kd l 0 by simp [Kd], hr]
  simp only [Kd_len]
  rw [show l.length - (l.length - k) = k by omega]
theorem parse_ok {s : List UInt8} {l : List Tok} {a : Int} {done : List (Nat × Rul)} (h : splitS s = (l, a, 0)) (hr : rulesA (Kd l 0) = .ok done) : parseS s = if 20 < done.length then ([], longS s l done, 6) else (done.map (·.2), -1, 0) := by
  unfold parseS
  rw [h]
  simp only [if_pos]
  rw [show l.map era = Kd l 0 by simp [Kd], hr]
  simp only
  unfold longS
  by_cases hd : 20 < done.length
  · rw [if_pos hd, List.getElem?_eq_getElem hd]
  · rw [if_neg hd, List.getElem?_eq_none (by omega)]
theorem long_range {s : List UInt8} {l : List Tok} {a : Int} (h : splitS s = (l, a, 0)) (done : List (Nat × Rul)) : (20 < done.length → 0 ≤ longS s l done) ∧ (done.length ≤ 20 → longS s l done = -1) := by
  unfold longS
  refine ⟨fun hd => ?_, fun hd => ?_⟩
  · rw [List.getElem?_eq_getElem hd]
    simp only
    unfold posAt
    split
    · rename_i ht
      exact split_pos h _ (List.mem_of_getElem? ht)
    · omega
  · rw [List.getElem?_eq_none (by omega)]
theorem load_rule_lit {ops : Array Oper} {rest : List Oper} {o : Oper} {a : Act} {w : World} {Q : Exit → Act → World → Prop} {B : Nat} {r : Rul} {y : WSl} (h : RBox B r y w) (hgd : o.guard = none) (x : Operand) (ho : o.op = .load 42 x) (hx : a.eval x = .pointer (some ⟨B, 0, none⟩))
    (k : wpList Tryz.prog ops Q rest (a.put o.dst (.agg #[.string (txt r.name), .int .i64 r.pri, .int .u32 (r.m.sa : Int), .int .i64 r.m.sl, .int .u32 (r.m.da : Int), .int .i64 r.m.dl, .int .i64 r.m.pr, .int .i64 r.m.sp, .int .i64 r.m.dp,
  .int .i64 r.x.frm, .int .i64 r.x.too, .int .i64 r.x.bnd, .slice y.av y.nv y.cv, .slice y.an y.nn y.cn, .slice y.al y.nl y.cl, .slice y.ac y.nc y.cc, .bool r.strict])) w) : wpList Tryz.prog ops Q (o :: rest) a w :=
  load_rule h hgd x ho hx k
theorem parse_not (s : List UInt8) (w : World) (hs : s.length ≤ 9223372036854775807) {l : List Tok} {a e : Int} (h : splitS s = (l, a, e)) (he : e ≠ 0) : Calls Tryz.prog 6 #[.string (txt s)] w (ParseAns (parseS s) w) := by
  have HS := hid (split_any s w hs)
  rw [h] at HS
  have HQ := hid (show parseS s = ([], a, e) by unfold parseS; rw [h]; simp only [if_neg he])
  have t0 : (e != 0) = true := by simpa using he
  obtain ⟨R, hR⟩ : ∃ R, parseS s = R := ⟨_, rfl⟩
  have HR := hid hR
  rw [hR]
  clear h he hR
  go_enter Tryz.func6, Tryz.ntmps6
  go_wp2_with (go_at_call 14; (with_reducible refine HS.out.mono ?_); rintro e' w2 ⟨v, rfl, hown, hb⟩; have HB := hid hb; clear hown hb)
  go_ret3
  have := parseAns_none (w := w) HQ.out HB.out
  rw [HR.out] at this
  exact this
/-- Behind rule. -/
structure PRl (s : List UInt8) (A : Option Addr) (n c : Nat) (l : List Tok) (w : World) (BP : Nat) (v : Value) (k : Nat) (done : List (Nat × Rul)) (qs : List (Rul × WSl)) (r : Rul) (y : WSl) (k' : Nat) (b : Bool) (BR : Nat) (w' : World) : Prop where
  bel : Below w.heap.size w w'
  pst : PSt BP A n c l k' b w'
  own : w'.ownsRow (BP + 1) 42 17 v qs.length (rrow qs)
  lists : ∀ q ∈ qs, ROwn w' q.1.x q.2
  box : RBox BR r y w'
  ok : b = false → ruleP (Kd l k) = .ok (r, Kd l k') ∧ ROwn w' r.x y
  bad : b = true → ruleP (Kd l k) = .error (Kd l k')
theorem prl_of {s : List UInt8} {A : Option Addr} {n c : Nat} {l : List Tok} {w : World} {BP : Nat} {v : Value} {lg : Int} {k : Nat} {done : List (Nat × Rul)} {qs : List (Rul × WSl)} {wr w5 : World} {e : Ending} (hP : w.heap.size ≤ BP) (h : PLp s A n c l w BP v lg k done qs wr) (hr : RulAns BP A n c l k wr e w5) :
    ∃ r y k' b, e = .returned (.agg (rarr r y)) ∧ PRl s A n c l w BP v k done qs r y k' b w5.heap.size (w5.alloc (.cells (rarr r y) 42)) := by
  obtain ⟨hb, r, y, k', he, hx⟩ := hr
  have h1 := (Below.refl w5.heap.size w5).alloc (Nat.le_refl _) (.cells (rarr r y) 42)
  have hbel : Below w.heap.size w w5 := h.bel.trans (hb.below hP h.bel.size)
  have hown := own_but h.own hb h.pst.box (by decide)
  have hl : ∀ q ∈ qs, ROwn w5 q.1.x q.2 := fun q hq => rown_but (h.lists q hq) hb h.pst.box (by decide)
  rcases hx with ⟨h2, h3, h4⟩ | ⟨h2, h3⟩
  · exact ⟨r, y, k', false, he, hbel.trans (h1.mono hbel.size), h3.on h1, own_below hown h1, fun q hq => (hl q hq).any fun ho => own_below ho h1, heap_alloc_new w5 _, fun _ => ⟨h2, h4.any fun ho => own_below ho h1⟩, fun hh => by cases hh⟩
  · exact ⟨r, y, k', true, he, hbel.trans (h1.mono hbel.size), h3.on h1, own_below hown h1, fun q hq => (hl q hq).any fun ho => own_below ho h1, heap_alloc_new w5 _, fun hh => (by cases hh), fun _ => h2⟩
theorem PLp.put {s : List UInt8} {A : Option Addr} {n c : Nat} {l : List Tok} {w : World} {BP : Nat} {v v6 : Value} {lg : Int} {k k' : Nat} {done : List (Nat × Rul)} {qs : List (Rul × WSl)} {wr w5 w6 : World} {r : Rul} {y : WSl} {BR : Nat} {t : Tok} {o : Obj} (hP : w.heap.size ≤ BP) (h : PLp s A n c l w BP v lg k done qs wr) (hk : l[k]? = some t) (h5 : PRl s A n c l w BP v k done qs r y k' false BR w5)
    (hown : w6.ownsRow (BP + 1) 42 17 v6 (qs.length + 1) (rrow qs ++ (rarr r y).toList)) (hg : (w5.alloc o).grownBy w6 v.ownBlock) : PLp s A n c l w BP v6 (if qs.length = 20 then t.pos else lg) k' (done ++ [(l.length - k, r)]) (qs ++ [(r, y)]) w6 := by
  obtain ⟨hr, ho⟩ := h5.ok rfl
  have hlt := (List.getElem?_eq_some_iff.1 hk).1
  have hlen := h.pst.len
  have hd : done.length = qs.length := by have := congrArg List.length h.same; simpa using this
  have hk' : k + 1 ≤ k' := by
    have h1 := ruleP_len hr
    rw [Kd_len, Kd_len] at h1
    have := h5.pst.in_
    omega
  refine ⟨Below.grown (h5.bel.alloc h5.bel.size o) hg (by have := h5.bel.size; simp; omega) (fun q hq => by have := (h5.own.lt q hq).1; omega), h5.pst.app h5.own hg (by decide) (by decide), ?_, ?_, ?_, ?_, ?_, ?_, ?_⟩
  · rw [List.length_append, List.length_singleton, rrow_app]
    simpa [rrow] using hown
  · intro q hq
    rw [List.mem_append, List.mem_singleton] at hq
    rcases hq with hq | rfl
    · exact (h5.lists q hq).any fun ho => own_app ho h5.own hg (by decide)
    · exact ho.any fun ho => own_app ho h5.own hg (by decide)
  · intro q hq
    rw [List.mem_append, List.mem_singleton] at hq
    rcases hq with hq | rfl
    · exact h.nums q hq
    · exact ruleP_in hr
  · rw [List.map_append, List.map_append, h.same]; rfl
  · rw [List.length_append, List.length_singleton]; have := h.few; omega
  · rw [h.rules]; exact rules_on hlt hr done
  · rw [long_on hk, hd, h.long]
theorem parse_in (s : List UInt8) (w : World) (hs : s.length ≤ 9223372036854775807) {l : List Tok} {a : Int} (h : splitS s = (l, a, 0)) : Calls Tryz.prog 6 #[.string (txt s)] w (ParseAns (parseS s) w) := by
  have HS := hid (split_any s w hs)
  rw [h] at HS
  have HH := hid h
  obtain ⟨hfew, hsml⟩ := split_few h
  obtain ⟨R, hR⟩ : ∃ R, parseS s = R := ⟨_, rfl⟩
  have HR := hid hR
  rw [hR]
  have t0 : ((0 : Int) != 0) = false := by decide
  have Hsml := hid hsml
  clear h hR hsml
  go_enter Tryz.func6, Tryz.ntmps6
  go_wp2_with (go_at_call 14; (with_reducible refine HS.out.mono ?_); rintro e' w2 ⟨v, rfl, hown, hb⟩; obtain ⟨A, c, rfl⟩ := own_form hown; have HB := hid hb; have HO := hid hown; clear hown hb)
  obtain ⟨n, hn⟩ : ∃ n, l.length = n := ⟨_, rfl⟩
  obtain ⟨BP, hBP⟩ : ∃ BP, w2.heap.size = BP := ⟨_, rfl⟩
  obtain ⟨w3, hw3⟩ : ∃ w3, w2.alloc (.cells #[.slice A l.length c, .int .i64 0, .bool false] 55) = w3 := ⟨_, rfl⟩
  have HP := hid (show w.heap.size ≤ BP by rw [← hBP]; exact HB.out.size)
  have HS0 : Hid (PLp s A n c l w BP (.slice none 0 0) (-1) 0 [] [] w3) := by
    rw [← hw3, ← hBP, ← hn]
    have hb3 := (Below.refl w2.heap.size w2).alloc (Nat.le_refl _) (.cells #[.slice A l.length c, .int .i64 0, .bool false] 55)
    refine ⟨HB.out.trans (hb3.mono HB.out.size), ⟨heap_alloc_new w2 _, own_mono (own_below HO.out hb3) (Nat.zero_le _), hfew, Hsml.out, Nat.zero_le _⟩, World.ownsRow_nil _ _ _ _, fun q hq => by simp at hq, fun q hq => by simp at hq, rfl, Nat.le_refl _, ?_, rfl⟩
    cases rulesA (Kd l 0) <;> rfl
  simp only [hBP, hw3]
  simp only [hn]
  have Hn := hid hn
  rw [hn] at hfew
  clear hBP hw3 hn HO HB HS
  go_loopw [9, 10] (fun v lv wr => ∃ (lg : Int) (k : Nat) (done : List (Nat × Rul)) (qs : List (Rul × WSl)), lv = .int .i64 lg ∧ lenOf v = qs.length ∧ Hid (PLp s A n c l w BP v lg k done qs wr)) (fun v _ _ => 20005 - lenOf v)
  case atStart => exact ⟨-1, 0, [], [], rfl, rfl, HS0⟩
  case round =>
    obtain ⟨lg, k, done, qs, rfl, hlv, HSt⟩ := hrel
    obtain ⟨AQ, cQ, hvq⟩ := own_form HSt.out.own
    subst hvq
    have hin := HSt.out.pst.in_
    have hfq := HSt.out.few
    obtain ⟨p0, p1, p2, _⟩ := pbox_cells HSt.out.pst.box
    by_cases hlt : k < n
    · obtain ⟨t, ht⟩ : ∃ t, l[k]? = some t := ⟨l[k]'(by rw [Hn.out]; exact hlt), List.getElem?_eq_getElem _⟩
      obtain ⟨g, rfl, _, x0, x1, x2⟩ := HSt.out.pst.at ht
      have HT := hid ht
      have kl : (k : Int) < (n : Int) := by omega
      have HRu := hid (rule_any BP _ n c l k wr HSt.out.pst)
      clear ht
      obtain ⟨lg2, hlg2⟩ : ∃ lg2, (if qs.length = 20 then t.pos else lg) = lg2 := ⟨_, rfl⟩
      have HLg := hid hlg2
      go_upto_if 34 with fail
      go_cut [10] from 25 to 69 (fun v wx => v = .int .i64 lg2 ∧ wx = wr)
      case first =>
        by_cases h20 : qs.length = 20
        · have t20 : ((qs.length : Int) == 20) = true := by simp; omega
          have HL2 := hid (show lg2 = t.pos by rw [← HLg.out, if_pos h20])
          clear h20
          go_wp2_with fail
          go_meet
          exact ⟨by rw [HL2.out], by first | rfl | trivial⟩
        · have t20 : ((qs.length : Int) == 20) = false := by simp; omega
          have HL2 := hid (show lg2 = lg by rw [← HLg.out, if_neg h20])
          clear h20
          go_wp2_with fail
          go_meet
          exact ⟨by rw [HL2.out], by first | rfl | trivial⟩
      case rest =>
        obtain ⟨rfl, rfl⟩ := hcut
        clear x0 x1 x2 p0 p1 p2
        go_upto_region 11 with (first
          | (go_at_call 15; (with_reducible refine HRu.out.mono ?_); intro e' w5 hru; obtain ⟨r, y, k', b, rfl, h5⟩ := prl_of HP.out HSt.out hru; have H5 := hid h5; have hz : RBox w5.heap.size noRul noWSl (w5.alloc (.cells #[.string ⟨#[]⟩, .int .i64 0, .int .u32 0, .int .i64 0, .int .u32 0, .int .i64 0, .int .i64 0, .int .i64 0, .int .i64 0, .int .i64 0, .int .i64 0, .int .i64 0, .slice none 0 0, .slice none 0 0, .slice none 0 0, .slice none 0 0, .bool false] 42)) := heap_alloc_new w5 _; clear hru h5)
          | (with_reducible refine store_rule (r := r) (y := y) hz rfl _ _ rfl (by go_simp) (by go_simp) ?_))
        obtain ⟨w6, hw6⟩ : ∃ w6, (w5.alloc (.cells #[.string ⟨#[]⟩, .int .i64 0, .int .u32 0, .int .i64 0, .int .u32 0, .int .i64 0, .int .i64 0, .int .i64 0, .int .i64 0, .int .i64 0, .int .i64 0, .int .i64 0, .slice none 0 0, .slice none 0 0, .slice none 0 0, .slice none 0 0, .bool false] 42)).setRow w5.heap.size (rarr r y) = w6 := ⟨_, rfl⟩
        have H6 := hid (show PRl s (some ⟨g, 0, none⟩) n c l w BP (.slice AQ qs.length cQ) k done qs r y k' b w5.heap.size w6 by rw [← hw6, World.setRow_alloc_new]; exact H5.out)
        simp only [hw6]
        obtain ⟨BR, hBR⟩ : ∃ BR, w5.heap.size = BR := ⟨_, rfl⟩
        rw [hBR] at H6
        simp only [hBR]
        clear hw6 hBR hz H5 HRu
        obtain ⟨p0, p1, p2, _⟩ := pbox_cells H6.out.pst.box
        have hin' := H6.out.pst.in_
        have hsz6 := H6.out.bel.size
        cases b with
        | true =>
          have hE : rulesA (Kd l 0) = .error (Kd l k') := by rw [HSt.out.rules]; exact rules_bad (by rw [Hn.out]; exact hlt) (H6.out.bad rfl) done
          have hP := parse_bad HH.out hE (by rw [Hn.out]; exact hin')
          rw [HR.out] at hP
          have HQ := hid hP
          clear hE hP
          by_cases hk' : k' < n
          · obtain ⟨t', ht'⟩ : ∃ t', l[k']? = some t' := ⟨l[k']'(by rw [Hn.out]; exact hk'), List.getElem?_eq_getElem _⟩
            obtain ⟨g2, hA2, _, x0, x1, x2⟩ := H6.out.pst.at ht'
            injection hA2 with hA2; injection hA2 with hA2 _ _
            subst hA2
            have HT' := hid (show posAt s l k' = t'.pos by unfold posAt; rw [ht'])
            have kl' : (k' : Int) < (n : Int) := by omega
            clear ht'
            go_wp2_with fail
            go_big_quiet (fail)
            go_wp2_with fail
            go_ret3
            refine ⟨below_drewN H6.out.bel, none, 0, [], by rw [HQ.out]; rfl, ?_, ⟨rfl, Nat.le_refl _, fun _ => ⟨rfl, rfl⟩, fun hn => by simp at hn, fun q hq => by simp at hq⟩⟩
            rw [HQ.out, HT'.out]; rfl
          · obtain rfl : k' = n := by omega
            have HT' := hid (show posAt s l k' = (s.length : Int) by unfold posAt; rw [List.getElem?_eq_none (by rw [Hn.out]; exact Nat.le_refl _)])
            go_wp2_with fail
            go_ret3
            refine ⟨H6.out.bel, none, 0, [], by rw [HQ.out]; rfl, ?_, ⟨rfl, Nat.le_refl _, fun _ => ⟨rfl, rfl⟩, fun hn => by simp at hn, fun q hq => by simp at hq⟩⟩
            rw [HQ.out, HT'.out]; rfl
        | false =>
          obtain ⟨i5, hi5, hz0, hz1, hz2⟩ := info_parts (show (Tryz.prog.info? 42).map (fun i => (i.zero, i.size, i.bytes)) = some (some (.agg #[.string ⟨#[]⟩, .int .i64 0, .int .u32 0, .int .i64 0, .int .u32 0, .int .i64 0, .int .i64 0, .int .i64 0, .int .i64 0, .int .i64 0, .int .i64 0, .int .i64 0, .slice none 0 0, .slice none 0 0, .slice none 0 0, .slice none 0 0, .bool false]), 17, 208) by kernel_rfl)
          have Ai := hid hi5; have Az0 := hid hz0; have Az1 := hid hz1; have Az2 := hid hz2
          have hP2 := HP.out
          have hPw := pst_lt H6.out.pst.box
          clear hi5 hz0 hz1 hz2
          go_upto_region 15 with fail
          go_wp2_with (first
            | (with_reducible refine load_rule_lit H6.out.box rfl _ rfl (by go_simp) ?_)
            | (at_builtin; refine wpList_append_own _ rfl _ _ 23 rfl (BP + 1) 42 i5 (.agg #[.string ⟨#[]⟩, .int .i64 0, .int .u32 0, .int .i64 0, .int .u32 0, .int .i64 0, .int .i64 0, .int .i64 0, .int .i64 0, .int .i64 0, .int .i64 0, .int .i64 0, .slice none 0 0, .slice none 0 0, .slice none 0 0, .slice none 0 0, .bool false]) 17 208 Tryz.underlying23 Ai.out Az0.out Az1.out Az2.out rfl (by decide) _ _ _ rfl (H6.out.own.alloc _) ⟨w6.heap.size, 0, none⟩ 1 1 (rarr r y).toList rfl rfl (new_row (by rfl)) (by simp [rarr, Value.oneCell']) (by unfold maxLen; omega) (by omega) (by simp; omega) ?_; intro v7 w7 hown7 hg7 _; obtain ⟨A7, c7, rfl⟩ := own_form hown7; have HNx := hid (PLp.put HP.out HSt.out HT.out H6.out hown7 hg7); clear hown7 hg7))
          go_roundw
          case rel => exact ⟨lg2, k', done ++ [(l.length - k, r)], qs ++ [(r, y)], rfl, by simp [lenOf], by rw [HLg.out] at HNx; exact HNx⟩
          case measure => simp [lenOf] at hlv ⊢; omega
    · obtain rfl : k = n := by omega
      have hE : rulesA (Kd l k) = .ok [] := by rw [Kd_none (by rw [Hn.out]; exact Nat.le_refl _)]; rfl
      have hD : rulesA (Kd l 0) = .ok done := by rw [HSt.out.rules, hE]; simp [contR]
      have hP := parse_ok HH.out hD
      obtain ⟨h1, h2⟩ := long_range HH.out done
      have hlg := HSt.out.long
      rw [← hlg] at h1 h2
      by_cases hd : 20 < done.length
      · rw [if_pos hd, ← hlg, HR.out] at hP
        have HQ := hid hP
        have t1 : decide (0 ≤ lg) = true := by simpa using h1 hd
        clear hE hD hP h1 h2 hlg hd
        go_wp2_with fail
        go_ret3
        exact ⟨HSt.out.bel, none, 0, [], by rw [HQ.out]; rfl, by rw [HQ.out]; rfl, ⟨rfl, Nat.le_refl _, fun _ => ⟨rfl, rfl⟩, fun hn => by simp at hn, fun q hq => by simp at hq⟩⟩
      · rw [if_neg hd, HR.out] at hP
        have HQ := hid hP
        have t1 : decide (0 ≤ lg) = false := by rw [h2 (by omega)]; decide
        have Hsame := hid HSt.out.same
        clear hE hD hP h1 h2 hlg hd
        go_wp2_with fail
        go_ret3
        refine ⟨HSt.out.bel, AQ, cQ, qs, by rw [HQ.out]; exact Hsame.out.symm, by rw [HQ.out]; rfl, own_rrul HSt.out.own fun q hq => rown_warg (HSt.out.lists q hq) (fits_of (HSt.out.nums q hq))⟩
theorem parse_any (s : List UInt8) (w : World) (hs : s.length ≤ 9223372036854775807) : Calls Tryz.prog 6 #[.string (txt s)] w (ParseAns (parseS s) w) := by
  obtain ⟨l, a, e, h⟩ : ∃ l a e, splitS s = (l, a, e) := ⟨_, _, _, rfl⟩
  by_cases he : e = 0
  · subst he
    exact parse_in s w hs h
  · exact parse_not s w hs h he
end Go.Proofs.YtcmkcloapenpnaaGreatDoor
