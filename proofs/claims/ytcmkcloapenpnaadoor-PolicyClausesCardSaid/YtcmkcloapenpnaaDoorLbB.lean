/- Cut out of LaJ LaK LaL LaM. -/
import Derived.Test.YtcmkcloapenpnaaDoorLbH
import Derived.Test.YtcmkcloapenpnaaDoorShS
import Derived.Test.YtcmkcloapenpnaaDoorPlH
import Derived.Test.YtcmkcloapenpnaaDoorWpB
import Derived.StillTailTactics
import Derived.Deep.DeepCutAuto
namespace Go.Proofs.YtcmkcloapenpnaaDoor
open Go.RowKit
set_option maxHeartbeats 12800000
set_option maxRecDepth 100000
theorem contains_any (A : Option Addr) (n c : Nat) (H : List (List UInt8)) (s : List UInt8) (w : World) (hr : RStr w w.heap.size A n H) (hn : n ≤ 1000000) :
    Calls Tryd.prog 56 #[.slice A n c, .string (txt s)] w fun e w' => e = .returned (.bool (decide (s ∈ H))) ∧ w' = w := by
  have hlen := hr.1
  rcases Nat.eq_zero_or_pos n with h0 | h0
  · subst h0
    obtain rfl : H = [] := List.length_eq_zero_iff.1 hlen
    exact (slices_Contains_string_empty A c (txt s) w).mono fun e w' h => ⟨by rw [h.1]; simp, h.2⟩
  · obtain ⟨b, off, rfl, _, hc⟩ := hr.2 h0
    have hz : (H.map txt).length = n := by rw [List.length_map]; exact hlen
    refine (slices_Contains_string b off n c (H.map txt) (txt s) w (by omega) (by omega) (fun j hj => ?_)).mono fun e w' h => ⟨?_, h.2⟩
    · rw [hz] at hj
      have hx : H[j]? = some H[j] := List.getElem?_eq_getElem (by omega)
      have := hc j _ hx
      rw [List.getD_eq_getElem?_getD, List.getElem?_map, hx]
      exact this
    · rw [h.1]
      have e1 : (H.map txt).take n = H.map txt := List.take_of_length_le (by omega)
      rw [e1]
      congr 2
      rw [Bool.eq_iff_iff, Lib.containsS_iff, decide_eq_true_iff, List.mem_map]
      constructor
      · rintro ⟨x, hx, he⟩
        have : x = s := by have := congrArg ByteArray.toList he; rwa [txt_list, txt_list] at this
        rw [← this]; exact hx
      · intro hs
        exact ⟨s, hs, rfl⟩
theorem rclause_any (X : Rdr) (b BR k : Nat) (r : Rul) (y : WSl) (w : World) (h : At X k w) (hx : Box X BR (rarr r y) 67 w) (ho : RoB b w r.x y) (hbw : b ≤ w.heap.size) (hw : wordIx (textAt X.l k) ≠ 13) (hy : ∀ i, i < 4 → wordIx (textAt X.l k) = i → fld i y = (none, 0, 0)) :
    Calls Tryd.prog 57 #[.pointer (some ⟨X.BP, 0, none⟩), .pointer (some ⟨BR, 0, none⟩)] w fun e w' => ∃ ok, e = .returned (.bool ok) ∧ ClR X b BR k (wordIx (textAt X.l k)) r y w ok w' := by
  obtain ⟨h1, h2⟩ := wordIx_lt hw
  obtain ⟨i, hi⟩ : ∃ i, wordIx (textAt X.l k) = i := ⟨_, rfl⟩
  rw [hi] at h1 h2 hy ⊢
  have ht := h2.symm
  match i, h1 with
  | 0, _ => exact rclause_0 X b BR k r y w h hx ho ht (hy 0 (by decide) rfl) hbw
  | 1, _ => exact rclause_1 X b BR k r y w h hx ho ht (hy 1 (by decide) rfl) hbw
  | 2, _ => exact rclause_2 X b BR k r y w h hx ho ht (hy 2 (by decide) rfl) hbw
  | 3, _ => exact rclause_3 X b BR k r y w h hx ho ht (hy 3 (by decide) rfl) hbw
  | 4, _ => exact rclause_4 X b BR k r y w h hx ho ht
  | 5, _ => exact rclause_5 X b BR k r y w h hx ho ht
  | 6, _ => exact rclause_6 X b BR k r y w h hx ho ht
  | 7, _ => exact rclause_7 X b BR k r y w h hx ho ht
  | 8, _ => exact rclause_8 X b BR k r y w h hx ho ht
  | 9, _ => exact rclause_9 X b BR k r y w h hx ho ht
  | 10, _ => exact rclause_10 X b BR k r y w h hx ho ht
  | 11, _ => exact rclause_11 X b BR k r y w h hx ho ht
  | 12, _ => exact rclause_12 X b BR k r y w h hx ho ht
  | i + 13, h1 => omega
/-- Where a rule's reading stands. -/
structure RuS (X : Rdr) (w : World) (r : Rul) (y : WSl) (k' : Nat) (w' : World) : Prop where
  but : But X.BP w w'
  at_ : At X k' w'
  res : RBox w.heap.size noRul noWSl w'
  box : Box X (w.heap.size + 1) (rarr r y) 67 w'
theorem RuS.on {X : Rdr} {w wx w' : World} {r : Rul} {y : WSl} {k' : Nat} (h : RuS X w r y k' wx) (hb : Below wx.heap.size wx w') : RuS X w r y k' w' := ⟨h.but.trans (But.of hb), h.at_.on hb, box_below h.res hb (pst_lt h.res), h.box.on hb⟩
theorem RuS.step {X : Rdr} {w wx w' : World} {r r' : Rul} {y y' : WSl} {k' k2 : Nat} {cs : Array Value} (h : RuS X w r y k' wx) (hP : X.BP < w.heap.size) (hb : But2 X.BP (w.heap.size + 1) wx w') (hx : Box X (w.heap.size + 1) cs 67 w') (hcs : cs = rarr r' y') (ha : At X k2 w') : RuS X w r' y' k2 w' :=
  ⟨hb.old (Nat.le_succ _) w h.but (Nat.le_refl _), ha, (hb.block _ (pst_lt h.res) (by omega) (by omega)).trans h.res, hcs ▸ hx⟩
theorem RuS.past {X : Rdr} {w wx w' : World} {r : Rul} {y : WSl} {k' k2 : Nat} (h : RuS X w r y k' wx) (hP : X.BP < w.heap.size) (hb : But X.BP wx w') (ha : At X k2 w') : RuS X w r y k2 w' :=
  h.step hP (But2.fst hb) (h.box.but2 h.at_ hb) rfl ha
theorem RuS.app {X : Rdr} {w wx w4 : World} {r : Rul} {y : WSl} {k' : Nat} {base n : Nat} {v : Value} {xs : List Value} {o : Obj} (h : RuS X w r y k' wx) (h0 : X.w0.heap.size ≤ w.heap.size) (hbase : w.heap.size ≤ base) (hown : wx.ownsRow base 9 1 v n xs) (hg : (wx.alloc o).grownBy w4 v.ownBlock) : RuS X w r y k' w4 := by
  exact ⟨but_app h.but hbase hown hg, h.at_.app hown (by omega) hg (by decide) (by decide), box_app2 h.res hown (by decide) hg, h.box.app hown hg (by decide)⟩
/-- What rule tells. -/
def RuR (X : Rdr) (k : Nat) (w : World) (e : Ending) (w' : World) : Prop :=
  But X.BP w w' ∧ ∃ r y k' ok, e = .returned (.tuple #[.agg (rarr r y), .bool ok]) ∧ At X k' w' ∧ (ok = true → ruleP (Kd X.l k) = .ok (r, Kd X.l k') ∧ RoB w.heap.size w' r.x y) ∧ (ok = false → ruleP (Kd X.l k) = .error (Kd X.l k'))
theorem ru_bad {X : Rdr} {k : Nat} {w wx : World} {r : Rul} {y : WSl} {k' : Nat} (h : RuS X w r y k' wx) (h0 : X.w0.heap.size ≤ w.heap.size) (hq : ruleP (Kd X.l k) = .error (Kd X.l k')) : RuR X k w (.returned (.tuple #[.agg (rarr noRul noWSl), .bool false])) (wx.setRow w.heap.size (rarr noRul noWSl)) :=
  ⟨h.but.new2 (row_but _ _ _) (Nat.le_refl _), noRul, noWSl, k', false, rfl, h.at_.other (row_but _ _ _) h.res h0 (by decide) (by decide), fun hh => (by cases hh), fun _ => hq⟩
theorem ru_ok {X : Rdr} {k : Nat} {w wx : World} {r : Rul} {y : WSl} {k' : Nat} (h : RuS X w r y k' wx) (h0 : X.w0.heap.size ≤ w.heap.size) (ho : RoB w.heap.size wx r.x y) (hq : ruleP (Kd X.l k) = .ok (r, Kd X.l k')) : RuR X k w (.returned (.tuple #[.agg (rarr r y), .bool true])) (wx.setRow w.heap.size (rarr r y)) :=
  ⟨h.but.new2 (row_but _ _ _) (Nat.le_refl _), r, y, k', true, rfl, h.at_.other (row_but _ _ _) h.res h0 (by decide) (by decide), fun _ => ⟨hq, rob_but ho (row_but _ _ _) h.res (by decide)⟩, fun hh => by cases hh⟩
/-- While clauses are read. -/
structure RuL (X : Rdr) (k : Nat) (w : World) (v : Value) (H : List (List UInt8)) (k' : Nat) (r : Rul) (y : WSl) (w' : World) : Prop where
  st : RuS X w r y k' w'
  own : w'.ownsRow (w.heap.size + 2) 9 1 v H.length (scells H)
  few : H.length ≤ k'
  lists : RoB w.heap.size w' r.x y
  nil : ∀ i, i < 4 → wordL i ∉ H → fld i y = (none, 0, 0)
  good : RGood X.l k H r k'
theorem RuL.on {X : Rdr} {k : Nat} {w wr w' : World} {v : Value} {H : List (List UInt8)} {k' : Nat} {r : Rul} {y : WSl} (h : RuL X k w v H k' r y wr) (hb : Below wr.heap.size wr w') : RuL X k w v H k' r y w' :=
  ⟨h.st.on hb, own_below h.own hb, h.few, h.lists.any fun ho => own_below ho hb, h.nil, h.good⟩
theorem RuL.str {X : Rdr} {k : Nat} {w wr : World} {A : Option Addr} {c : Nat} {H : List (List UInt8)} {k' : Nat} {r : Rul} {y : WSl} (h : RuL X k w (.slice A H.length c) H k' r y wr) : RStr wr wr.heap.size A H.length H := by
  obtain ⟨A', c', h1, _, h2⟩ := own_strs h.own rfl
  injection h1 with h1 _ _
  rw [h1]; exact h2
/-- Behind a clause that is read. -/
structure RuC (X : Rdr) (k : Nat) (w : World) (v : Value) (H : List (List UInt8)) (s : List UInt8) (k' : Nat) (r : Rul) (y : WSl) (w' : World) : Prop where
  st : RuS X w r y k' w'
  own : w'.ownsRow (w.heap.size + 2) 9 1 v H.length (scells H)
  few : H.length + 1 ≤ k'
  lists : RoB w.heap.size w' r.x y
  nil : ∀ i, i < 4 → wordL i ∉ H ++ [s] → fld i y = (none, 0, 0)
  good : RGood X.l k (H ++ [s]) r k'
theorem clauseI_lt {l : List Tok} {i k k' : Nat} {r r' : Rul} (hk : k ≤ l.length) (hk' : k' ≤ l.length) (h : clauseI i r (Kd l k) = .ok (r', Kd l k')) : k ≤ k' := by
  have := clauseI_len h
  rw [Kd_len, Kd_len] at this
  omega
theorem ruc_of {X : Rdr} {k : Nat} {w w1 w' : World} {v : Value} {H : List (List UInt8)} {k' : Nat} {r : Rul} {y : WSl} (h : RuL X k w v H k' r y w1) (hP : X.BP < w.heap.size) (h1 : textAt X.l k' ∉ H) (h2 : wordIx (textAt X.l k') ≠ 13) {ok : Bool} (hc : ClR X w.heap.size (w.heap.size + 1) k' (wordIx (textAt X.l k')) r y w1 ok w') :
    (ok = true → ∃ k2 r2 y2, k' < k2 ∧ RuC X k w v H (textAt X.l k') k2 r2 y2 w') ∧ (ok = false → ∃ k2 r2 y2, RuS X w r2 y2 k2 w' ∧ ruleP (Kd X.l k) = .error (Kd X.l k2)) := by
  obtain ⟨hb, r', y', k2, hbx, hat, hro, hf, hok, hno⟩ := hc
  have hs := h.st.step hP hb hbx rfl hat
  obtain ⟨hk, hq⟩ := rule_more h.st.at_.ok h.good h1 h2
  obtain ⟨A', c', hpx, _⟩ := h.st.at_.box
  have hlen := h.st.at_.len
  have hf' := h.few
  have hlt : ok = true → k' < k2 := fun he => by
    rcases hok he with hh | ⟨hh, hs2⟩
    · have := clauseI_lt (by omega) (by rw [hlen]; exact hat.in_) hh
      omega
    · have := clauseI_err hh (by omega) (by rw [hlen]; exact hat.in_)
      omega
  refine ⟨fun he => ⟨k2, r', y', hlt he, hs, own_but2 h.own hb hpx (by decide) h.st.box.box (by decide), ?_, hro, fun i hi hm => ?_, ?_⟩, fun he => ⟨k2, r', y', hs, ?_⟩⟩
  · have := hlt he
    omega
  · rw [List.mem_append, not_or, List.mem_singleton] at hm
    obtain ⟨h3, h4⟩ := wordIx_lt h2
    have hne : i ≠ wordIx (textAt X.l k') := fun e => hm.2 (by rw [e, h4])
    rw [hf i hi hne]
    exact h.nil i hi hm.1
  · rcases hok he with hh | ⟨hh, hs2⟩
    · left; rw [hq, hh]
    · right; exact ⟨by rw [hq, hh], hs2⟩
  · rw [hq, hno he]
theorem RuC.put {X : Rdr} {k : Nat} {w wx w6 : World} {v v6 : Value} {H : List (List UInt8)} {s : List UInt8} {k2 : Nat} {r : Rul} {y : WSl} {o : Obj} (h : RuC X k w v H s k2 r y wx) (h0 : X.w0.heap.size ≤ w.heap.size) (hown : w6.ownsRow (w.heap.size + 2) 9 1 v6 (H.length + 1) (scells H ++ [.string (txt s)])) (hg : (wx.alloc o).grownBy w6 v.ownBlock) : RuL X k w v6 (H ++ [s]) k2 r y w6 :=
  ⟨h.st.app h0 (by omega) h.own hg, by rw [List.length_append, List.length_singleton]; simpa [scells] using hown, by rw [List.length_append, List.length_singleton]; exact h.few, h.lists.any fun ho => own_app ho h.own hg (by decide), h.nil, h.good⟩
theorem build_zero {ops : Array Oper} {rest : List Oper} {o : Oper} {a : Act} {w : World} {Q : Exit → Act → World → Prop} (hgd : o.guard = none) (ho : o.op = .build 67 #[])
    (k : wpList Tryd.prog ops Q rest (a.put o.dst (.agg (rarr noRul noWSl))) w) : wpList Tryd.prog ops Q (o :: rest) a w := by
  have e : (Tryd.prog.built 67 []).isSome = true ∧ (Tryd.prog.built 67 []).getD #[] = rarr noRul noWSl := ⟨by kernel_rfl, by kernel_rfl⟩
  have e0 : ((#[] : Array (Nat × Operand)).map fun (i, x) => (i, a.eval x)).toList = [] := by simp
  exact wpList_build hgd 67 #[] ho (by rw [e0]; exact e.1) (by rw [e0, e.2]; exact k)
theorem takes_rule_no {X : Rdr} {k : Nat} (h : textAt X.l k ≠ ruleW) (wx : World) (ha : At X k wx) : Calls Tryd.prog 53 #[.pointer (some ⟨X.BP, 0, none⟩), .string ⟨#[114, 117, 108, 101]⟩] wx fun e w' => e = .returned (.bool false) ∧ Below wx.heap.size wx w' := takes_no (W := ruleW) rfl h (by decide) wx ha
theorem takes_rule_yes {X : Rdr} {k : Nat} (h : textAt X.l k = ruleW) (wx : World) (ha : At X k wx) : Calls Tryd.prog 53 #[.pointer (some ⟨X.BP, 0, none⟩), .string ⟨#[114, 117, 108, 101]⟩] wx fun e w' => e = .returned (.bool true) ∧ But X.BP wx w' ∧ At X (k + 1) w' := takes_yes (W := ruleW) h (by decide) wx ha
theorem name_no {X : Rdr} {k B j : Nat} {cs : Array Value} {T : TypeId} {w : World} (h : At X k w) (hx : Box X B cs T w) {v0 : Value} (hj : cs[j]? = some v0) (hk : kindAt X.l k ≠ 1) :
    Calls Tryd.prog 54 #[.pointer (some ⟨X.BP, 0, none⟩), .pointer (some ⟨B, j, none⟩)] w fun e w' => e = .returned (.bool false) ∧ Below w.heap.size w w' :=
  (name_any X k B j cs T w h hx hj).mono fun e w' hh => by
    rw [if_neg hk] at hh
    rcases hh with ⟨_, h1, _⟩ | ⟨_, h2, h3⟩
    · cases h1
    · exact ⟨h2, h3⟩
theorem name_yes {X : Rdr} {k B j : Nat} {cs : Array Value} {T : TypeId} {w : World} (h : At X k w) (hx : Box X B cs T w) {v0 : Value} (hj : cs[j]? = some v0) (hk : kindAt X.l k = 1) :
    Calls Tryd.prog 54 #[.pointer (some ⟨X.BP, 0, none⟩), .pointer (some ⟨B, j, none⟩)] w fun e w' => e = .returned (.bool true) ∧ But2 X.BP B w w' ∧ Box X B (cs.setIfInBounds j (.string (txt (textAt X.l k)))) T w' ∧ At X (k + 1) w' :=
  (name_any X k B j cs T w h hx hj).mono fun e w' hh => by
    rw [if_pos hk] at hh
    rcases hh with ⟨cs', h1, h2, h3, h4, h5⟩ | ⟨h1, _⟩
    · obtain rfl := Option.some.inj h1
      exact ⟨h2, h3, h4, h5⟩
    · cases h1
theorem rnum_no {X : Rdr} {k B j : Nat} {cs : Array Value} {T : TypeId} {w : World} (h : At X k w) (hx : Box X B cs T w) {v0 : Value} (hj : cs[j]? = some v0) (hk : numAt X.l k = none) :
    Calls Tryd.prog 55 #[.pointer (some ⟨X.BP, 0, none⟩), .pointer (some ⟨B, j, none⟩)] w fun e w' => e = .returned (.bool false) ∧ Below w.heap.size w w' :=
  (rnum_any X k B j cs T w h hx hj).mono fun e w' hh => by
    rw [hk] at hh
    rcases hh with ⟨_, h1, _⟩ | ⟨_, h2, h3⟩
    · cases h1
    · exact ⟨h2, h3⟩
theorem rnum_yes {X : Rdr} {k B j v : Nat} {cs : Array Value} {T : TypeId} {w : World} (h : At X k w) (hx : Box X B cs T w) {v0 : Value} (hj : cs[j]? = some v0) (hk : numAt X.l k = some v) :
    Calls Tryd.prog 55 #[.pointer (some ⟨X.BP, 0, none⟩), .pointer (some ⟨B, j, none⟩)] w fun e w' => e = .returned (.bool true) ∧ But2 X.BP B w w' ∧ Box X B (cs.setIfInBounds j (.int .i64 (v : Int))) T w' ∧ At X (k + 1) w' :=
  (rnum_any X k B j cs T w h hx hj).mono fun e w' hh => by
    rw [hk] at hh
    rcases hh with ⟨cs', h1, h2, h3, h4, h5⟩ | ⟨h1, _⟩
    · obtain rfl : _ = cs' := Option.some.inj h1
      exact ⟨h2, h3, h4, h5⟩
    · cases h1
theorem ru_start {X : Rdr} {k : Nat} {w : World} (h : At X k w) : RuS X w noRul noWSl k ((w.alloc (.cells (rarr noRul noWSl) 67)).alloc (.cells (rarr noRul noWSl) 67)) := by
  have b1 : Below w.heap.size w (w.alloc (.cells (rarr noRul noWSl) 67)) := (Below.refl _ _).alloc (Nat.le_refl _) _
  have b2 : Below w.heap.size w ((w.alloc (.cells (rarr noRul noWSl) 67)).alloc (.cells (rarr noRul noWSl) 67)) := b1.alloc (by simp) _
  have hX1 : RBox w.heap.size noRul noWSl ((w.alloc (.cells (rarr noRul noWSl) 67)).alloc (.cells (rarr noRul noWSl) 67)) := box_below (heap_alloc_new w _) ((Below.refl _ _).alloc (Nat.le_refl _) _) (by simp)
  have hX2 : RBox (w.heap.size + 1) noRul noWSl ((w.alloc (.cells (rarr noRul noWSl) 67)).alloc (.cells (rarr noRul noWSl) 67)) := by
    have := heap_alloc_new (w.alloc (.cells (rarr noRul noWSl) 67)) (.cells (rarr noRul noWSl) 67)
    rw [show (w.alloc (.cells (rarr noRul noWSl) 67)).heap.size = w.heap.size + 1 by simp] at this
    exact this
  exact ⟨But.of b2, h.on b2, hX1, hX2, by have := h.bel.size; omega, by decide, by decide⟩
theorem rrule_any (X : Rdr) (k : Nat) (w : World) (h : At X k w) :
    Calls Tryd.prog 35 #[.pointer (some ⟨X.BP, 0, none⟩)] w (RuR X k w) := by
  have HR2 := hid (ru_start h)
  have hBP := h.lt
  have H0 := hid h.bel.size
  have HOk := hid h.ok
  have hfew := h.few
  clear h
  go_enter Tryd.func35, Tryd.ntmps35
  go_upto_region 2 with fail
  obtain ⟨W, hW⟩ : ∃ W, ((w.alloc (.cells (rarr noRul noWSl) 67)).alloc (.cells (rarr noRul noWSl) 67)) = W := ⟨_, rfl⟩
  change Code.wp _ _ _ _ ((w.alloc (.cells (rarr noRul noWSl) 67)).alloc (.cells (rarr noRul noWSl) 67))
  rw [hW] at HR2 ⊢
  clear hW
  by_cases c0 : textAt X.l k = ruleW
  case neg =>
    have HT := hid (takes_rule_no c0 W HR2.out.at_)
    have HQ := hid (rule_b0 c0)
    clear c0
    go_upto_region 3 with (first
      | (go_at_call 53; (with_reducible refine HT.out.mono ?_); rintro e' w1 ⟨rfl, hb1⟩; have HE := hid (HR2.out.on hb1); clear hb1))
    go_wp2_with (first
      | (with_reducible refine build_zero rfl rfl ?_) | (with_reducible refine store_rule (r := noRul) (y := noWSl) HE.out.res rfl _ _ rfl (by go_simp) (by go_simp) ?_))
    have hg := row_box HE.out.res noRul noWSl
    try simp only [Exit.inBlock, Exit.then]
    refine bodyPost_ret (results_cellrow_tmp (p := 2) (u := 3) (fn := Tryd.f35) rfl _ _ _ _ _ _ _ rfl hg Tryd.underlying67 rfl (by kernel_rfl)) rfl ?_
    exact ru_bad HE.out H0.out HQ.out
  case pos =>
    have HT := hid (takes_rule_yes c0 W HR2.out.at_)
    have hq1 := rule_b1 HOk.out c0
    obtain ⟨k1, hk1⟩ : ∃ k1, k + 1 = k1 := ⟨_, rfl⟩
    rw [hk1] at HT hq1
    clear c0
    have TKarm : True := trivial
    by_cases c1 : kindAt X.l k1 = 1
    case neg =>
      have HQ := hid (hq1.trans (rule_b2 c1))
      have HC := hid c1
      clear c1 hq1 TKarm
      go_upto_region 3 with (first
        | (go_at_call 53; (with_reducible refine HT.out.mono ?_); rintro e' w1 ⟨rfl, hb1, ha1⟩; have HS1 := hid (HR2.out.past hBP hb1 ha1); clear hb1 ha1)
        | (go_at_call 54; (with_reducible refine (name_no HS1.out.at_ HS1.out.box (v0 := .string (txt [])) rfl HC.out).mono ?_); rintro e' w2 ⟨rfl, hb2⟩; have HE := hid (HS1.out.on hb2); clear hb2))
      go_wp2_with (first
        | (with_reducible refine build_zero rfl rfl ?_) | (with_reducible refine store_rule (r := noRul) (y := noWSl) HE.out.res rfl _ _ rfl (by go_simp) (by go_simp) ?_))
      have hg := row_box HE.out.res noRul noWSl
      try simp only [Exit.inBlock, Exit.then]
      refine bodyPost_ret (results_cellrow_tmp (p := 2) (u := 3) (fn := Tryd.f35) rfl _ _ _ _ _ _ _ rfl hg Tryd.underlying67 rfl (by kernel_rfl)) rfl ?_
      exact ru_bad HE.out H0.out HQ.out
    case pos =>
      have hq2 := hq1.trans (rule_b3 c1)
      have HC := hid c1
      obtain ⟨nm, hnm⟩ : ∃ nm, textAt X.l k1 = nm := ⟨_, rfl⟩
      obtain ⟨k2, hk2⟩ : ∃ k2, k1 + 1 = k2 := ⟨_, rfl⟩
      rw [hnm, hk2] at hq2
      have HNm := hid hnm
      have HK2 := hid hk2
      clear c1 hq1 TKarm
      cases c2 : numAt X.l k2 with
      | none =>
        have HQ := hid (show ruleP (Kd X.l k) = .error (Kd X.l k2) by rw [hq2, num1_bad c2])
        have HC2 := hid c2
        clear c2 hq2 hnm hk2
        go_upto_region 3 with (first
          | (go_at_call 53; (with_reducible refine HT.out.mono ?_); rintro e' w1 ⟨rfl, hb1, ha1⟩; have HS1 := hid (HR2.out.past hBP hb1 ha1); clear hb1 ha1)
          | (go_at_call 54; (with_reducible refine (name_yes HS1.out.at_ HS1.out.box (v0 := .string (txt [])) rfl HC.out).mono ?_); rintro e' w2 ⟨rfl, hb2, hx2, ha2⟩; (rw [HNm.out] at hx2); (rw [HK2.out] at ha2); have HS2 := hid (HS1.out.step hBP hb2 hx2 (r' := { noRul with name := nm }) (y' := noWSl) rfl ha2); clear hb2 hx2 ha2)
          | (go_at_call 55; (with_reducible refine (rnum_no HS2.out.at_ HS2.out.box (v0 := .int .i64 0) rfl HC2.out).mono ?_); rintro e' w3 ⟨rfl, hb3⟩; have HE := hid (HS2.out.on hb3); clear hb3))
        go_wp2_with (first
          | (with_reducible refine build_zero rfl rfl ?_) | (with_reducible refine store_rule (r := noRul) (y := noWSl) HE.out.res rfl _ _ rfl (by go_simp) (by go_simp) ?_))
        have hg := row_box HE.out.res noRul noWSl
        try simp only [Exit.inBlock, Exit.then]
        refine bodyPost_ret (results_cellrow_tmp (p := 2) (u := 3) (fn := Tryd.f35) rfl _ _ _ _ _ _ _ rfl hg Tryd.underlying67 rfl (by kernel_rfl)) rfl ?_
        exact ru_bad HE.out H0.out HQ.out
      | some v =>
        obtain ⟨k3, hk3⟩ : ∃ k3, k2 + 1 = k3 := ⟨_, rfl⟩
        obtain ⟨hn1, hn2⟩ := num1_at c2
        rw [hk3] at hn1
        have HQ := hid (show RGood X.l k [] { noRul with name := nm, pri := (v : Int) } k3 from .inl (by rw [hq2, hn1]))
        have HC2 := hid c2
        have HK3 := hid hk3
        clear c2 hq2 hnm hk2 hn1 hn2 hk3
        go_wp2_with (first
          | (go_at_call 53; (with_reducible refine HT.out.mono ?_); rintro e' w1 ⟨rfl, hb1, ha1⟩; have HS1 := hid (HR2.out.past hBP hb1 ha1); clear hb1 ha1)
          | (go_at_call 54; (with_reducible refine (name_yes HS1.out.at_ HS1.out.box (v0 := .string (txt [])) rfl HC.out).mono ?_); rintro e' w2 ⟨rfl, hb2, hx2, ha2⟩; (rw [HNm.out] at hx2); (rw [HK2.out] at ha2); have HS2 := hid (HS1.out.step hBP hb2 hx2 (r' := { noRul with name := nm }) (y' := noWSl) rfl ha2); clear hb2 hx2 ha2)
          | (go_at_call 55; (with_reducible refine (rnum_yes HS2.out.at_ HS2.out.box (v0 := .int .i64 0) rfl HC2.out).mono ?_); rintro e' w3 ⟨rfl, hb3, hx3, ha3⟩; (rw [HK3.out] at ha3); have HS3 := hid (HS2.out.step hBP hb3 hx3 (r' := { noRul with name := nm, pri := (v : Int) }) (y' := noWSl) rfl ha3); clear hb3 hx3 ha3))
        have HL0 : Hid (RuL X k w (.slice none 0 0) [] k3 { noRul with name := nm, pri := (v : Int) } noWSl w3) := ⟨HS3.out, World.ownsRow_nil _ _ _ _, Nat.zero_le _, ⟨World.ownsRow_nil _ _ _ _, World.ownsRow_nil _ _ _ _, World.ownsRow_nil _ _ _ _, World.ownsRow_nil _ _ _ _⟩, fun i hi _ => (by rcases (show i = 0 ∨ i = 1 ∨ i = 2 ∨ i = 3 by omega) with rfl | rfl | rfl | rfl <;> rfl), HQ.out⟩
        clear HR2 HT HC HC2 HQ HS1 HS2 HS3 HNm HK2 HK3
        go_loopw [5] (fun v wr => ∃ (H : List (List UInt8)) (k' : Nat) (r : Rul) (y : WSl), lenOf v = H.length ∧ Hid (RuL X k w v H k' r y wr)) (fun _ wr => lenOf ((wr.cell? ⟨X.BP, 0, none⟩).getD undef))
        case atStart => exact ⟨[], k3, _, noWSl, rfl, HL0⟩
        case round =>
          obtain ⟨H, k', r, y, hlv, HSt⟩ := hrel
          obtain ⟨A, c, hv⟩ := own_form HSt.out.own
          subst hv
          have hfewH := HSt.out.few
          have hin := HSt.out.st.at_.in_
          have HStr : Hid (∀ wx, RuL X k w (.slice A H.length c) H k' r y wx → RStr wx wx.heap.size A H.length H) := fun wx hl => hl.str
          have HA := hid (fun wx (hh : At X k' wx) => ahead_any X k' wx hh)
          obtain ⟨K, hK⟩ : ∃ K, kindAt X.l k' = K := ⟨_, rfl⟩
          obtain ⟨Y, hY⟩ : ∃ Y, textAt X.l k' = Y := ⟨_, rfl⟩
          obtain ⟨P, hP⟩ : ∃ P, posE X.E X.l k' = P := ⟨_, rfl⟩
          rw [hK, hY, hP] at HA
          have hfl := fld_text K P (txt Y)
          have HY := hid hY
          clear hK hY hP hlv HL0
          by_cases hend : Y = [59]
          · have te : ((txt Y).toList == [59]) = true := by rw [txt_list, hend]; rfl
            obtain ⟨hkn, hq1, hq2⟩ := rule_endG HOk.out HSt.out.good (HY.out.trans hend)
            rw [HSt.out.st.at_.len] at hkn
            by_cases hft : wordL 11 ∈ H ∧ wordL 12 ∈ H
            · have HQ := hid (hq1 hft.1 hft.2)
              clear hend hq1 hq2
              have HF : Hid (∀ wx : World, RStr wx wx.heap.size A H.length H → Calls Tryd.prog 56 #[.slice A H.length c, .string ⟨#[102, 114, 111, 109]⟩] wx fun e w' => e = .returned (.bool true) ∧ w' = wx) := fun wx hr => by
                have := contains_any A H.length c H (wordL 11) wx hr (by omega)
                rw [show decide (wordL 11 ∈ H) = true from decide_eq_true hft.1] at this
                exact this
              have HT2 : Hid (∀ wx : World, RStr wx wx.heap.size A H.length H → Calls Tryd.prog 56 #[.slice A H.length c, .string ⟨#[116, 111]⟩] wx fun e w' => e = .returned (.bool true) ∧ w' = wx) := fun wx hr => by
                have := contains_any A H.length c H (wordL 12) wx hr (by omega)
                rw [show decide (wordL 12 ∈ H) = true from decide_eq_true hft.2] at this
                exact this
              have HP := hid (fun W hW => pass_any X k' W hW hkn)
              clear hft
              go_upto_region 13 with (first
                | (go_at_call 52; (with_reducible refine (HA.out _ HSt.out.st.at_).mono ?_); rintro e' w1 ⟨rfl, hb1⟩; have HL1 := hid (HSt.out.on hb1); have HR1 := hid (HStr.out _ HL1.out); clear hb1)
                | (go_at_call 56; (with_reducible refine (HF.out _ HR1.out).mono ?_); rintro _ _ ⟨rfl, rfl⟩)
                | (go_at_call 56; (with_reducible refine (HT2.out _ HR1.out).mono ?_); rintro _ _ ⟨rfl, rfl⟩)
                | (go_at_call 58; (with_reducible refine (HP.out _ HL1.out.st.at_).mono ?_); rintro e' w5 ⟨rfl, hb5, ha5⟩; have HE := hid (HL1.out.st.past hBP hb5 ha5); have HBx := hid (show RBox (w.heap.size + 1) r y w5 from HE.out.box.box); have HO := hid (by obtain ⟨A', c', hx, _⟩ := HL1.out.st.at_.box; exact rob_but HL1.out.lists hb5 hx (by decide)); clear hb5 ha5))
              go_wp2_with (first | (with_reducible refine load_rule HBx.out rfl _ rfl (by go_simp) ?_) | (with_reducible refine store_rule (r := r) (y := y) HE.out.res rfl _ _ rfl (by go_simp) (by go_simp) ?_))
              have hg := row_box HE.out.res r y
              try simp only [Exit.inBlock, Exit.then]
              refine bodyPost_ret (results_cellrow_tmp (p := 2) (u := 3) (fn := Tryd.f35) rfl _ _ _ _ _ _ _ rfl hg Tryd.underlying67 rfl (by kernel_rfl)) rfl ?_
              exact ru_ok HE.out H0.out HO.out HQ.out
            · have HQ := hid (hq2 hft)
              clear hend hq1 hq2
              by_cases hf : wordL 11 ∈ H
              · have hnt : wordL 12 ∉ H := fun h => hft ⟨hf, h⟩
                have HF : Hid (∀ wx : World, RStr wx wx.heap.size A H.length H → Calls Tryd.prog 56 #[.slice A H.length c, .string ⟨#[102, 114, 111, 109]⟩] wx fun e w' => e = .returned (.bool true) ∧ w' = wx) := fun wx hr => by
                  have := contains_any A H.length c H (wordL 11) wx hr (by omega)
                  rw [show decide (wordL 11 ∈ H) = true from decide_eq_true hf] at this
                  exact this
                have HT2 : Hid (∀ wx : World, RStr wx wx.heap.size A H.length H → Calls Tryd.prog 56 #[.slice A H.length c, .string ⟨#[116, 111]⟩] wx fun e w' => e = .returned (.bool false) ∧ w' = wx) := fun wx hr => by
                  have := contains_any A H.length c H (wordL 12) wx hr (by omega)
                  rw [show decide (wordL 12 ∈ H) = false from decide_eq_false hnt] at this
                  exact this
                clear hft hf hnt
                go_upto_region 11 with (first
                  | (go_at_call 52; (with_reducible refine (HA.out _ HSt.out.st.at_).mono ?_); rintro e' w1 ⟨rfl, hb1⟩; have HL1 := hid (HSt.out.on hb1); have HR1 := hid (HStr.out _ HL1.out); have HE := hid HL1.out.st; clear hb1)
                  | (go_at_call 56; (with_reducible refine (HF.out _ HR1.out).mono ?_); rintro _ _ ⟨rfl, rfl⟩)
                  | (go_at_call 56; (with_reducible refine (HT2.out _ HR1.out).mono ?_); rintro _ _ ⟨rfl, rfl⟩))
                go_wp2_with (first | (with_reducible refine build_zero rfl rfl ?_) | (with_reducible refine store_rule (r := noRul) (y := noWSl) HE.out.res rfl _ _ rfl (by go_simp) (by go_simp) ?_))
                have hg := row_box HE.out.res noRul noWSl
                try simp only [Exit.inBlock, Exit.then]
                refine bodyPost_ret (results_cellrow_tmp (p := 2) (u := 3) (fn := Tryd.f35) rfl _ _ _ _ _ _ _ rfl hg Tryd.underlying67 rfl (by kernel_rfl)) rfl ?_
                exact ru_bad HE.out H0.out HQ.out
              · skip
                have HF : Hid (∀ wx : World, RStr wx wx.heap.size A H.length H → Calls Tryd.prog 56 #[.slice A H.length c, .string ⟨#[102, 114, 111, 109]⟩] wx fun e w' => e = .returned (.bool false) ∧ w' = wx) := fun wx hr => by
                  have := contains_any A H.length c H (wordL 11) wx hr (by omega)
                  rw [show decide (wordL 11 ∈ H) = false from decide_eq_false hf] at this
                  exact this
                clear hft hf
                go_upto_region 11 with (first
                  | (go_at_call 52; (with_reducible refine (HA.out _ HSt.out.st.at_).mono ?_); rintro e' w1 ⟨rfl, hb1⟩; have HL1 := hid (HSt.out.on hb1); have HR1 := hid (HStr.out _ HL1.out); have HE := hid HL1.out.st; clear hb1)
                  | (go_at_call 56; (with_reducible refine (HF.out _ HR1.out).mono ?_); rintro _ _ ⟨rfl, rfl⟩))
                go_wp2_with (first | (with_reducible refine build_zero rfl rfl ?_) | (with_reducible refine store_rule (r := noRul) (y := noWSl) HE.out.res rfl _ _ rfl (by go_simp) (by go_simp) ?_))
                have hg := row_box HE.out.res noRul noWSl
                try simp only [Exit.inBlock, Exit.then]
                refine bodyPost_ret (results_cellrow_tmp (p := 2) (u := 3) (fn := Tryd.f35) rfl _ _ _ _ _ _ _ rfl hg Tryd.underlying67 rfl (by kernel_rfl)) rfl ?_
                exact ru_bad HE.out H0.out HQ.out
          · have te : ((txt Y).toList == [59]) = false := by rw [txt_list]; exact beq_false_of_ne hend
            have HC : Hid (∀ wx : World, RStr wx wx.heap.size A H.length H → Calls Tryd.prog 56 #[.slice A H.length c, .string (txt Y)] wx fun e w' => e = .returned (.bool (decide (Y ∈ H))) ∧ w' = wx) := fun wx hr => contains_any A H.length c H Y wx hr (by omega)
            by_cases hm : Y ∈ H
            · have HQ := hid (rule_stop HOk.out HSt.out.good (by rw [HY.out]; exact hend) (.inl (by rw [HY.out]; exact hm)))
              rw [decide_eq_true hm] at HC
              clear hend hm
              go_upto_region 8 with (first
                | (go_at_call 52; (with_reducible refine (HA.out _ HSt.out.st.at_).mono ?_); rintro e' w1 ⟨rfl, hb1⟩; have HL1 := hid (HSt.out.on hb1); clear hb1)
                | (go_at_call 52; (with_reducible refine (HA.out _ HL1.out.st.at_).mono ?_); rintro e' w2 ⟨rfl, hb2⟩; have HL2 := hid (HL1.out.on hb2); have HR2 := hid (HStr.out _ HL2.out); clear hb2)
                | (go_at_call 56; (with_reducible refine (HC.out _ HR2.out).mono ?_); rintro _ _ ⟨rfl, rfl⟩; have HE := hid HL2.out.st))
              go_wp2_with (first | (with_reducible refine build_zero rfl rfl ?_) | (with_reducible refine store_rule (r := noRul) (y := noWSl) HE.out.res rfl _ _ rfl (by go_simp) (by go_simp) ?_))
              have hg := row_box HE.out.res noRul noWSl
              try simp only [Exit.inBlock, Exit.then]
              refine bodyPost_ret (results_cellrow_tmp (p := 2) (u := 3) (fn := Tryd.f35) rfl _ _ _ _ _ _ _ rfl hg Tryd.underlying67 rfl (by kernel_rfl)) rfl ?_
              exact ru_bad HE.out H0.out HQ.out
            · rw [decide_eq_false hm] at HC
              by_cases h13 : wordIx Y = 13
              · have HQ := hid (rule_stop HOk.out HSt.out.good (by rw [HY.out]; exact hend) (.inr (by rw [HY.out]; exact h13)))
                have HCl := hid (fun wx (hh : At X k' wx) => rclause_no X (w.heap.size + 1) k' wx hh (by rw [HY.out]; exact h13))
                clear hend hm h13
                go_upto_region 8 with (first
                  | (go_at_call 52; (with_reducible refine (HA.out _ HSt.out.st.at_).mono ?_); rintro e' w1 ⟨rfl, hb1⟩; have HL1 := hid (HSt.out.on hb1); clear hb1)
                  | (go_at_call 52; (with_reducible refine (HA.out _ HL1.out.st.at_).mono ?_); rintro e' w2 ⟨rfl, hb2⟩; have HL2 := hid (HL1.out.on hb2); have HR2 := hid (HStr.out _ HL2.out); clear hb2)
                  | (go_at_call 56; (with_reducible refine (HC.out _ HR2.out).mono ?_); rintro _ _ ⟨rfl, rfl⟩)
                  | (go_at_call 57; (with_reducible refine (HCl.out _ HL2.out.st.at_).mono ?_); rintro e' w3 ⟨rfl, hb3⟩; have HE := hid (HL2.out.st.on hb3); clear hb3))
                go_wp2_with (first | (with_reducible refine build_zero rfl rfl ?_) | (with_reducible refine store_rule (r := noRul) (y := noWSl) HE.out.res rfl _ _ rfl (by go_simp) (by go_simp) ?_))
                have hg := row_box HE.out.res noRul noWSl
                try simp only [Exit.inBlock, Exit.then]
                refine bodyPost_ret (results_cellrow_tmp (p := 2) (u := 3) (fn := Tryd.f35) rfl _ _ _ _ _ _ _ rfl hg Tryd.underlying67 rfl (by kernel_rfl)) rfl ?_
                exact ru_bad HE.out H0.out HQ.out
              · have HCl := hid (fun wx (hh : RuL X k w (.slice A H.length c) H k' r y wx) => rclause_any X w.heap.size (w.heap.size + 1) k' r y wx hh.st.at_ hh.st.box hh.lists hh.st.but.size (by rw [HY.out]; exact h13) (fun i hi he => hh.nil i hi (by obtain ⟨_, h2⟩ := wordIx_lt h13; rw [HY.out] at he; rw [← he, h2]; exact hm)))
                have HRc := hid (fun w1 w' ok (hh : RuL X k w (.slice A H.length c) H k' r y w1) (hc : ClR X w.heap.size (w.heap.size + 1) k' (wordIx (textAt X.l k')) r y w1 ok w') => ruc_of hh hBP (by rw [HY.out]; exact hm) (by rw [HY.out]; exact h13) hc)
                clear hend hm h13
                go_upto_region 7 with (first
                  | (go_at_call 52; (with_reducible refine (HA.out _ HSt.out.st.at_).mono ?_); rintro e' w1 ⟨rfl, hb1⟩; have HL1 := hid (HSt.out.on hb1); clear hb1)
                  | (go_at_call 52; (with_reducible refine (HA.out _ HL1.out.st.at_).mono ?_); rintro e' w2 ⟨rfl, hb2⟩; have HL2 := hid (HL1.out.on hb2); have HR2 := hid (HStr.out _ HL2.out); clear hb2))
                go_cut [37] from 23 to 42 (fun b wx => ∃ ok : Bool, b = .bool (!ok) ∧ Hid ((ok = true → ∃ k2 r2 y2, k' < k2 ∧ RuC X k w (.slice A H.length c) H Y k2 r2 y2 wx) ∧ (ok = false → ∃ k2 r2 y2, RuS X w r2 y2 k2 wx ∧ ruleP (Kd X.l k) = .error (Kd X.l k2))))
                case first =>
                  go_wp2_with (first
                    | (go_at_call 56; (with_reducible refine (HC.out _ HR2.out).mono ?_); rintro _ _ ⟨rfl, rfl⟩)
                    | (go_at_call 57; (with_reducible refine (HCl.out _ HL2.out).mono ?_); rintro e' w3 ⟨ok, rfl, hcl⟩; have HZ := hid (HRc.out _ _ ok HL2.out hcl); (rw [HY.out] at HZ); clear hcl))
                  go_meet
                  exact ⟨ok, rfl, HZ⟩
                case rest =>
                  obtain ⟨ok, rfl, HZ⟩ := hcut
                  cases ok with
                  | false =>
                    obtain ⟨k2, r2, y2, hs2, hq2⟩ := HZ.out.2 rfl
                    have HE := hid hs2
                    have HQ := hid hq2
                    clear hs2 hq2 HZ
                    go_upto_region 8 with fail
                    go_wp2_with (first | (with_reducible refine build_zero rfl rfl ?_) | (with_reducible refine store_rule (r := noRul) (y := noWSl) HE.out.res rfl _ _ rfl (by go_simp) (by go_simp) ?_))
                    have hg := row_box HE.out.res noRul noWSl
                    try simp only [Exit.inBlock, Exit.then]
                    refine bodyPost_ret (results_cellrow_tmp (p := 2) (u := 3) (fn := Tryd.f35) rfl _ _ _ _ _ _ _ rfl hg Tryd.underlying67 rfl (by kernel_rfl)) rfl ?_
                    exact ru_bad HE.out H0.out HQ.out
                  | true =>
                    obtain ⟨k2, r2, y2, hkl, hs2⟩ := HZ.out.1 rfl
                    have HE := hid hs2
                    have hin2 := hs2.st.at_.in_
                    have HLo := HSt.out.st.at_.left
                    have hszx := hs2.st.but.size
                    have hlx := pst_lt hs2.st.box.box
                    clear hs2 HZ
                    obtain ⟨i5, hi5, hz0, hz1, hz2⟩ := info_parts (show (Tryd.prog.info? 9).map (fun i => (i.zero, i.size, i.bytes)) = some (some (.string ⟨#[]⟩), 1, 16) by kernel_rfl)
                    have Ai := hid hi5; have Az0 := hid hz0; have Az1 := hid hz1; have Az2 := hid hz2
                    clear hi5 hz0 hz1 hz2
                    go_wp2_with (at_builtin; refine wpList_append_own _ rfl _ _ 38 rfl (w.heap.size + 2) 9 i5 (.string ⟨#[]⟩) 1 16 Tryd.underlying38 Ai.out Az0.out Az1.out Az2.out rfl (by decide) _ _ _ rfl (HE.out.own.alloc _) ⟨wc.heap.size, 0, none⟩ 1 1 [.string (txt Y)] rfl rfl (new_row (by rfl)) (by simp [Value.oneCell']) (by unfold maxLen; omega) (by omega) (by simp; omega) ?_; intro v6 w6 hown6 hg6 _; obtain ⟨A6, c6, rfl⟩ := own_form hown6; have HNx := hid (HE.out.put H0.out hown6 hg6); clear hown6 hg6)
                    have HLf := HNx.out.st.at_.left
                    go_roundw
                    case rel => exact ⟨H ++ [Y], k2, r2, y2, by simp [lenOf], HNx⟩
                    case measure => rw [HLf, HLo]; omega
theorem run_append_new {P : Program} (w : World) (base : Nat) (t ty e : TypeId) (i : TypeInfo) (z : Value) (size bytes : Nat) (ht : P.underlying t = some (.slice e)) (hi : P.info? e = some i) (hz : i.zero = some z)
    (hsize : i.size = size) (hby : i.bytes = bytes) (hzs : z.cells.size = size) (hsz : 0 < size) (v : Value) (n : Nat) (xs : List Value) (hown : w.ownsRow base e size v n xs)
    (a : Addr) (m c : Nat) (news : List Value) (hl : news.length = m * size) (hnews : ∀ j u, news[j]? = some u → w.cell? (a.add j) = some u) (h1 : ∀ u ∈ news, u.oneCell' = true) (h63 : n + m ≤ maxLen) (hbytes : (n + m) * bytes ≤ 140737488355328) (hbase : base ≤ w.heap.size) :
    ∃ v' w', (Builtin.append_ #[t, t] ty #[v, .slice (some a) m c]).run P w = .ok v' w' ∧ w'.ownsRow base e size v' (n + m) (xs ++ news) ∧ w.grownBy w' v.ownBlock ∧ (v'.ownBlock = v.ownBlock ∨ ∀ k, v'.ownBlock = some k → w.heap.size ≤ k) := by
  obtain ⟨v', w', hr, h2, h3, _⟩ := run_append_own (P := P) w base t ty e i z size bytes ht hi hz hsize hby hzs hsz v n xs hown a m c news hl hnews h1 h63 hbytes hbase
  refine ⟨v', w', hr, h2, h3, ?_⟩
  subst hsize
  rcases hown.2 with ⟨rfl, rfl⟩ | ⟨g, cap, cur, rfl, _, hg, hnc, _, hcs, _⟩
  · right
    obtain ⟨v2, w2, hr2, h22, _⟩ := run_append_own (P := P) w w.heap.size t ty e i z i.size bytes ht hi hz rfl hby hzs hsz (.slice none 0 0) 0 [] (World.ownsRow_nil _ _ _ _) a m c news hl hnews h1 h63 hbytes (Nat.le_refl _)
    rw [hr] at hr2
    injection hr2 with e1 e2
    subst e1
    subst e2
    exact fun k hk => (h22.lt k hk).1
  · by_cases hroom : n + m ≤ cap
    · left
      have hr2 := run_append_room (P := P) w t ty e i ht hi g n cap cur hg a m c news hl hnews h1 hroom (by rw [hl, hcs, ← Nat.add_mul]; exact Nat.mul_le_mul_right _ hroom)
      rw [hr] at hr2
      injection hr2 with e1 _
      rw [e1]; rfl
    · right
      have hr2 := run_append_grow (P := P) w t ty e i z ht hi hz ⟨g, 0, none⟩ n cap xs hown.1 (hown.cells (g := g) rfl) a m c news hl hnews (by omega) (by unfold maxLen at h63; omega) (growslice_fits (by omega) (by rw [hby]; exact hbytes))
      rw [hr] at hr2
      injection hr2 with e1 _
      rw [e1]
      intro k hk
      simp only [Value.ownBlock, Option.some.injEq] at hk
      omega
theorem wpList_append_new {P : Program} {w : World} {ops : Array Oper} {rest : List Oper} {o : Oper} {a : Act} {Q : Exit → Act → World → Prop} (hgd : o.guard = none) (s x : Operand) (t : TypeId)
    (ho : o.op = .call { callee := .builtin .append, args := #[s, x], argTypes := #[t, t] }) (base : Nat) (e : TypeId) (i : TypeInfo) (z : Value) (size bytes : Nat) (ht : P.underlying t = some (.slice e)) (hi : P.info? e = some i) (hz : i.zero = some z)
    (hsize : i.size = size) (hby : i.bytes = bytes) (hzs : z.cells.size = size) (hsz : 0 < size) (v : Value) (n : Nat) (xs : List Value) (hs : a.eval s = v) (hown : w.ownsRow base e size v n xs)
    (ad : Addr) (m c : Nat) (news : List Value) (hx : a.eval x = .slice (some ad) m c) (hl : news.length = m * size) (hnews : ∀ j u, news[j]? = some u → w.cell? (ad.add j) = some u) (h1 : ∀ u ∈ news, u.oneCell' = true) (h63 : n + m ≤ maxLen) (hbytes : (n + m) * bytes ≤ 140737488355328) (hbase : base ≤ w.heap.size)
    (h : ∀ v' w', w'.ownsRow base e size v' (n + m) (xs ++ news) → w.grownBy w' v.ownBlock → (v'.ownBlock = v.ownBlock ∨ ∀ k, v'.ownBlock = some k → w.heap.size ≤ k) → wpList P ops Q rest (a.put o.dst v') w') : wpList P ops Q (o :: rest) a w :=
  wpList_plain hgd fun _ hK => by
    obtain ⟨v', w', hr, h2, h3, h4⟩ := run_append_new (P := P) w base t o.type e i z size bytes ht hi hz hsize hby hzs hsz v n xs hown ad m c news hl hnews h1 h63 hbytes hbase
    have hk := hK _ _ (h v' w' h2 h3 h4)
    unfold Oper.wp execOp
    simp only [ho, resolve, invoke, builtin, hs, hx, hr, List.map_toArray, List.map_cons, List.map_nil, Sem.run_bind, Sem.run_pure, Result.andThen_ok]
    exact hk
/-- A list of a rule, by its number. -/
def slJ (j : Nat) (y : WSl) : Value := .slice (fld j y).1 (fld j y).2.1 (fld j y).2.2
/-- A rule's lists lie apart from a row. -/
def Apt (vb : Value) (y : WSl) : Prop := ∀ j, j < 4 → (slJ j y).ownBlock = none ∨ (slJ j y).ownBlock ≠ vb.ownBlock
theorem rob_lt {b : Nat} {w : World} {x : Wnt} {y : WSl} (h : RoB b w x y) : ∀ j, j < 4 → ∀ k, (slJ j y).ownBlock = some k → b ≤ k ∧ k < w.heap.size := by
  intro j hj k hk
  rcases (show j = 0 ∨ j = 1 ∨ j = 2 ∨ j = 3 by omega) with rfl | rfl | rfl | rfl
  · exact h.via.lt k hk
  · exact h.nds.lt k hk
  · exact h.lks.lt k hk
  · exact h.cls.lt k hk
theorem rob_app {w w4 : World} {x : Wnt} {y : WSl} {vb : Value} {o : Obj} (h : RoB 0 w x y) (ha : Apt vb y) (hg : (w.alloc o).grownBy w4 vb.ownBlock) : RoB 0 w4 x y :=
  ⟨(h.via.alloc o).kept hg (ha 0 (by decide)), (h.nds.alloc o).kept hg (ha 1 (by decide)), (h.lks.alloc o).kept hg (ha 2 (by decide)), (h.cls.alloc o).kept hg (ha 3 (by decide))⟩
theorem apt_app {w : World} {x : Wnt} {y : WSl} {vb vb' : Value} {o : Obj} (h : RoB 0 w x y) (ha : Apt vb y) (hv : vb'.ownBlock = vb.ownBlock ∨ ∀ k, vb'.ownBlock = some k → (w.alloc o).heap.size ≤ k) : Apt vb' y := by
  intro j hj
  rcases hv with hv | hv
  · rw [hv]; exact ha j hj
  · cases hs : (slJ j y).ownBlock with
    | none => exact .inl rfl
    | some k =>
      right
      intro he
      have h1 := (rob_lt h j hj k hs).2
      have h2 := hv k he.symm
      simp at h2
      omega
theorem apt_new {w w' : World} {x : Wnt} {y : WSl} {vb : Value} {base e s n : Nat} {xs : List Value} (h : RoB w.heap.size w' x y) (hb : w.ownsRow base e s vb n xs) : Apt vb y := by
  intro j hj
  cases hs : (slJ j y).ownBlock with
  | none => exact .inl rfl
  | some k =>
    right
    intro he
    have h1 := (rob_lt h j hj k hs).1
    have h2 := (hb.lt k he.symm).2
    omega
theorem RoB.zero {b : Nat} {w : World} {x : Wnt} {y : WSl} (h : RoB b w x y) : RoB 0 w x y := ⟨own_mono h.via (Nat.zero_le _), own_mono h.nds (Nat.zero_le _), own_mono h.lks (Nat.zero_le _), own_mono h.cls (Nat.zero_le _)⟩
/-- Where Parse stands. -/
structure PaL (X : Rdr) (s : List UInt8) (vr vb : Value) (k : Nat) (done : List (Nat × Rul)) (bg : List Int) (qs : List (Rul × WSl)) (w' : World) : Prop where
  at_ : At X k w'
  own : w'.ownsRow (X.BP + 1) 67 17 vr qs.length (rrow qs)
  beg : w'.ownsRow (X.BP + 1) 3 1 vb bg.length (icells bg)
  lists : ∀ q ∈ qs, RoB 0 w' q.1.x q.2
  apt : ∀ q ∈ qs, Apt vb q.2
  nums : ∀ q ∈ qs, NumOk q.1
  same : qs.map (·.1) = done.map (·.2)
  few : qs.length ≤ k
  rules : rulesA (Kd X.l 0) = contR done (rulesA (Kd X.l k))
  bgl : bg = done.map fun d => posAt s X.l (X.l.length - d.1)
theorem PaL.on {X : Rdr} {s : List UInt8} {vr vb : Value} {k : Nat} {done : List (Nat × Rul)} {bg : List Int} {qs : List (Rul × WSl)} {w w' : World} (h : PaL X s vr vb k done bg qs w) (hb : Below w.heap.size w w') : PaL X s vr vb k done bg qs w' :=
  ⟨h.at_.on hb, own_below h.own hb, own_below h.beg hb, fun q hq => (h.lists q hq).any fun ho => own_below ho hb, h.apt, h.nums, h.same, h.few, h.rules, h.bgl⟩
/-- Behind the begin of a rule that was noted. -/
structure PaM (X : Rdr) (s : List UInt8) (vr vb : Value) (k : Nat) (done : List (Nat × Rul)) (bg : List Int) (qs : List (Rul × WSl)) (w' : World) : Prop where
  at_ : At X k w'
  own : w'.ownsRow (X.BP + 1) 67 17 vr qs.length (rrow qs)
  beg : w'.ownsRow (X.BP + 1) 3 1 vb (bg.length + 1) (icells (bg ++ [posAt s X.l k]))
  lists : ∀ q ∈ qs, RoB 0 w' q.1.x q.2
  apt : ∀ q ∈ qs, Apt vb q.2
theorem PaL.note {X : Rdr} {s : List UInt8} {vr vb vb' : Value} {k : Nat} {done : List (Nat × Rul)} {bg : List Int} {qs : List (Rul × WSl)} {w w4 : World} {o : Obj} (h : PaL X s vr vb k done bg qs w) (hE : X.w0.heap.size ≤ X.BP + 1) (hown : w4.ownsRow (X.BP + 1) 3 1 vb' (bg.length + 1) (icells bg ++ [.int .i64 (posAt s X.l k)])) (hg : (w.alloc o).grownBy w4 vb.ownBlock)
    (hv : vb'.ownBlock = vb.ownBlock ∨ ∀ k, vb'.ownBlock = some k → (w.alloc o).heap.size ≤ k) : PaM X s vr vb' k done bg qs w4 :=
  ⟨h.at_.app h.beg hE hg (by decide) (by decide), own_app h.own h.beg hg (by decide), by rw [icells_app]; exact hown, fun q hq => rob_app (h.lists q hq) (h.apt q hq) hg, fun q hq => apt_app (h.lists q hq) (h.apt q hq) hv⟩
/-- Behind rule. -/
structure PaR (X : Rdr) (s : List UInt8) (vr vb : Value) (k : Nat) (bg : List Int) (qs : List (Rul × WSl)) (r : Rul) (y : WSl) (k' : Nat) (ok : Bool) (BR : Nat) (w' : World) : Prop where
  at_ : At X k' w'
  own : w'.ownsRow (X.BP + 1) 67 17 vr qs.length (rrow qs)
  beg : w'.ownsRow (X.BP + 1) 3 1 vb (bg.length + 1) (icells (bg ++ [posAt s X.l k]))
  lists : ∀ q ∈ qs, RoB 0 w' q.1.x q.2
  apt : ∀ q ∈ qs, Apt vb q.2
  box : RBox BR r y w'
  good : ok = true → ruleP (Kd X.l k) = .ok (r, Kd X.l k') ∧ RoB 0 w' r.x y ∧ Apt vb y
  bad : ok = false → ruleP (Kd X.l k) = .error (Kd X.l k')
theorem par_of {X : Rdr} {s : List UInt8} {vr vb : Value} {k : Nat} {done : List (Nat × Rul)} {bg : List Int} {qs : List (Rul × WSl)} {w w5 : World} {e : Ending} (h : PaM X s vr vb k done bg qs w) (hr : RuR X k w e w5) :
    ∃ r y k' ok, e = .returned (.tuple #[.agg (rarr r y), .bool ok]) ∧ PaR X s vr vb k bg qs r y k' ok w5.heap.size (w5.alloc (.cells (rarr r y) 67)) := by
  obtain ⟨hb, r, y, k', ok, he, ha, h1, h2⟩ := hr
  have hx := (Below.refl w5.heap.size w5).alloc (Nat.le_refl _) (.cells (rarr r y) 67)
  obtain ⟨A', c', hp, _⟩ := h.at_.box
  refine ⟨r, y, k', ok, he, ha.on hx, own_below (own_but h.own hb hp (by decide)) hx, own_below (own_but h.beg hb hp (by decide)) hx, fun q hq => (rob_but (h.lists q hq) hb hp (by decide)).any fun ho => own_below ho hx, h.apt, heap_alloc_new w5 _, fun hh => ?_, h2⟩
  obtain ⟨h3, h4⟩ := h1 hh
  exact ⟨h3, h4.zero.any fun ho => own_below ho hx, apt_new h4 h.beg⟩
theorem PaR.put {X : Rdr} {s : List UInt8} {vr vr6 vb : Value} {k k' : Nat} {done : List (Nat × Rul)} {bg : List Int} {qs : List (Rul × WSl)} {w w5 w6 : World} {r : Rul} {y : WSl} {BR : Nat} {o : Obj} (h : PaL X s vr vb k done bg qs w) {vb2 : Value} (hE : X.w0.heap.size ≤ X.BP + 1) (hk : k < X.n) (h5 : PaR X s vr vb2 k bg qs r y k' true BR w5)
    (hown : w6.ownsRow (X.BP + 1) 67 17 vr6 (qs.length + 1) (rrow qs ++ (rarr r y).toList)) (hg : (w5.alloc o).grownBy w6 vr.ownBlock) : PaL X s vr6 vb2 k' (done ++ [(X.l.length - k, r)]) (bg ++ [posAt s X.l k]) (qs ++ [(r, y)]) w6 := by
  obtain ⟨hr, ho, hap⟩ := h5.good rfl
  have hlen := h.at_.len
  have hk' : k + 1 ≤ k' := by
    have h1 := ruleP_len hr
    rw [Kd_len, Kd_len] at h1
    have := h5.at_.in_
    omega
  refine ⟨h5.at_.app h5.own hE hg (by decide) (by decide), ?_, ?_, ?_, ?_, ?_, ?_, ?_, ?_, ?_⟩
  · rw [List.length_append, List.length_singleton, rrow_app]
    simpa [rrow] using hown
  · rw [List.length_append, List.length_singleton]
    exact own_app h5.beg h5.own hg (by decide)
  · intro q hq
    rw [List.mem_append, List.mem_singleton] at hq
    rcases hq with hq | rfl
    · exact (h5.lists q hq).any fun ho => own_app ho h5.own hg (by decide)
    · exact ho.any fun ho => own_app ho h5.own hg (by decide)
  · intro q hq
    rw [List.mem_append, List.mem_singleton] at hq
    rcases hq with hq | rfl
    · exact h5.apt q hq
    · exact hap
  · intro q hq
    rw [List.mem_append, List.mem_singleton] at hq
    rcases hq with hq | rfl
    · exact h.nums q hq
    · exact ruleP_in hr
  · rw [List.map_append, List.map_append, h.same]; rfl
  · rw [List.length_append, List.length_singleton]; have := h.few; omega
  · rw [h.rules]; exact rules_on (by omega) hr done
  · rw [List.map_append, List.map_singleton, h.bgl]
    congr 3
    show k = X.l.length - (X.l.length - k)
    omega
theorem landSplit_any (s : List UInt8) (w : World) (hs : s.length ≤ 9223372036854775807) : Calls Tryd.prog 33 #[.string (txt s)] w (SplitAns (splitS s) w) := by
  by_cases h1 : s.length ≤ 10000
  · exact landSplit_in s w h1
  · exact landSplit_long s w (by omega) hs
theorem lparse_not (s : List UInt8) (w : World) (hs : s.length ≤ 9223372036854775807) {l : List Tok} {a e : Int} (h : splitS s = (l, a, e)) (he : e ≠ 0) : Calls Tryd.prog 19 #[.string (txt s)] w (ParseAns (parseS s) w) := by
  have HS := hid (landSplit_any s w hs)
  rw [h] at HS
  have HQ := hid (show parseS s = ([], a, e) by unfold parseS; rw [h]; simp only [if_neg he])
  have t0 : (e == 0) = false := by simpa using he
  obtain ⟨R, hR⟩ : ∃ R, parseS s = R := ⟨_, rfl⟩
  have HR := hid hR
  rw [hR]
  clear h he hR
  go_enter Tryd.func19, Tryd.ntmps19
  go_wp2_with (go_at_call 33; (with_reducible refine HS.out.mono ?_); rintro e' w2 ⟨v, rfl, hown, hb⟩; have HB := hid hb; clear hown hb)
  go_ret3
  have := parseAns_none (w := w) HQ.out HB.out
  rw [HR.out] at this
  exact this
theorem lparse_in (s : List UInt8) (w : World) (hL : Ld w) (hs : s.length ≤ 9223372036854775807) {l : List Tok} {a : Int} (h : splitS s = (l, a, 0)) : Calls Tryd.prog 19 #[.string (txt s)] w (ParseAns (parseS s) w) := by
  have HS := hid (landSplit_any s w hs)
  rw [h] at HS
  have HH := hid h
  have HLd := hid hL
  obtain ⟨hfew, hsml⟩ := split_few h
  obtain ⟨hok, _, _⟩ := split_toks h
  obtain ⟨R, hR⟩ : ∃ R, parseS s = R := ⟨_, rfl⟩
  have HR := hid hR
  rw [hR]
  have t0 : ((0 : Int) == 0) = true := by decide
  have Hsml := hid hsml
  have Hok := hid hok
  have hZ : (txt s).size = s.length := rfl
  clear h hR hsml hok hL
  go_enter Tryd.func19, Tryd.ntmps19
  go_wp2_with (go_at_call 33; (with_reducible refine HS.out.mono ?_); rintro e' w2 ⟨v, rfl, hown, hb⟩; obtain ⟨A, c, rfl⟩ := own_form hown; have HB := hid hb; have HO := hid hown; clear hown hb)
  obtain ⟨n, hn⟩ : ∃ n, l.length = n := ⟨_, rfl⟩
  obtain ⟨BP, hBP⟩ : ∃ BP, w2.heap.size = BP := ⟨_, rfl⟩
  obtain ⟨w3, hw3⟩ : ∃ w3, w2.alloc (.cells #[.slice A l.length c, .int .i64 (s.length : Int)] 72) = w3 := ⟨_, rfl⟩
  obtain ⟨X, hX⟩ : ∃ X : Rdr, X = ⟨w, BP, A, n, c, l, s.length⟩ := ⟨_, rfl⟩
  have HXl := hid (show X.l = l by rw [hX])
  have HXn := hid (show X.n = n by rw [hX])
  have HXb := hid (show X.BP = BP by rw [hX])
  have HXw := hid (show X.w0 = w by rw [hX])
  have HXe := hid (show X.E = s.length by rw [hX])
  have HP := hid (show w.heap.size ≤ BP by rw [← hBP]; exact HB.out.size)
  have HS0 : Hid (PaL X s (.slice none 0 0) (.slice none 0 0) 0 [] [] [] w3) := by
    have hb3 := (Below.refl w2.heap.size w2).alloc (Nat.le_refl _) (.cells #[.slice A l.length c, .int .i64 (s.length : Int)] 72)
    rw [hw3] at hb3
    have hx3 : w3.heap[BP]? = some (.cells #[.slice A n c, .int .i64 (s.length : Int)] 72 (0, 0)) := by rw [← hw3, ← hBP, ← hn]; exact heap_alloc_new w2 _
    refine ⟨?_, World.ownsRow_nil _ _ _ _, World.ownsRow_nil _ _ _ _, fun q hq => by simp at hq, fun q hq => by simp at hq, fun q hq => by simp at hq, rfl, Nat.le_refl _, ?_, rfl⟩
    · rw [hX]
      refine ⟨HLd.out, HB.out.trans (hb3.mono HB.out.size), HP.out, ⟨A, c, hx3, fun h0 => ?_⟩, ?_, by rw [← hn]; exact hfew, Hsml.out, Nat.zero_le _, Hok.out⟩
      · rcases HO.out.2 with ⟨_, h1⟩ | ⟨g, cap, cur, h1, _, _, h2, _⟩
        · exact absurd h0 (by show ¬ 0 < n; omega)
        · injection h1 with h1 _ h3
          subst h3
          exact ⟨g, h1, by rw [h1, Nat.zero_mul], by show n - 0 ≤ c; omega⟩
      · show w3.ownsRow 0 _ 3 (.slice A n c) n (tcells l)
        rw [← hn]
        exact own_mono (own_below HO.out hb3) (Nat.zero_le _)
    · cases rulesA (Kd X.l 0) <;> rfl
  have Hn := hid hn
  rw [hn] at hfew
  simp only [hBP, hw3]
  clear hBP hw3 hn HO HB HS hX HLd Hsml Hok
  have HAt : Hid (∀ (k : Nat) (wx : World), At X k wx → Calls Tryd.prog 34 #[.pointer (some ⟨BP, 0, none⟩)] wx fun e w' => e = .returned (.int .i64 (posAt s l k)) ∧ Below wx.heap.size wx w') := fun k wx hh => by
    have := at_any X k wx hh
    rw [HXb.out, HXl.out, HXe.out] at this
    exact this
  have HRu : Hid (∀ (k : Nat) (wx : World), At X k wx → Calls Tryd.prog 35 #[.pointer (some ⟨BP, 0, none⟩)] wx (RuR X k wx)) := fun k wx hh => by
    have := rrule_any X k wx hh
    rw [HXb.out] at this
    exact this
  have HE := hid (show X.w0.heap.size ≤ X.BP + 1 by rw [HXw.out, HXb.out]; have := HP.out; omega)
  obtain ⟨i4, hi4, hy0, hy1, hy2⟩ := info_parts (show (Tryd.prog.info? 3).map (fun i => (i.zero, i.size, i.bytes)) = some (some (.int .i64 0), 1, 8) by kernel_rfl)
  have Bi := hid hi4; have Bz0 := hid hy0; have Bz1 := hid hy1; have Bz2 := hid hy2
  obtain ⟨i5, hi5, hz0, hz1, hz2⟩ := info_parts (show (Tryd.prog.info? 67).map (fun i => (i.zero, i.size, i.bytes)) = some (some (.agg #[.string ⟨#[]⟩, .int .i64 0, .int .u32 0, .int .i64 0, .int .u32 0, .int .i64 0, .int .i64 0, .int .i64 0, .int .i64 0, .int .i64 0, .int .i64 0, .int .i64 0, .slice none 0 0, .slice none 0 0, .slice none 0 0, .slice none 0 0, .bool false]), 17, 208) by kernel_rfl)
  have Ai := hid hi5; have Az0 := hid hz0; have Az1 := hid hz1; have Az2 := hid hz2
  clear hi4 hy0 hy1 hy2 hi5 hz0 hz1 hz2
  go_loopw [9, 10] (fun v u wr => ∃ (k : Nat) (done : List (Nat × Rul)) (bg : List Int) (qs : List (Rul × WSl)), lenOf v = qs.length ∧ Hid (PaL X s v u k done bg qs wr)) (fun v _ _ => 20005 - lenOf v)
  case atStart => exact ⟨0, [], [], [], rfl, HS0⟩
  case round =>
    obtain ⟨k, done, bg, qs, hlv, HSt⟩ := hrel
    obtain ⟨AQ, cQ, hvq⟩ := own_form HSt.out.own
    subst hvq
    obtain ⟨AB, cB, hvb⟩ := own_form HSt.out.beg
    subst hvb
    have hin : k ≤ n := by have := HSt.out.at_.in_; rw [HXn.out] at this; exact this
    have hfq := HSt.out.few
    have hbl : Hid (bg.length = qs.length) := by
      have h1 := HSt.out.bgl
      have h2 := congrArg List.length HSt.out.same
      show _ = _
      rw [h1]
      simpa using h2.symm
    have hfb : bg.length ≤ k := by have := hbl.out; omega
    obtain ⟨A', c', hx, _⟩ := HSt.out.at_.box
    rw [HXb.out, HXn.out] at hx
    obtain ⟨p0, p1, pf⟩ := box_cells hx
    obtain ⟨m, hm⟩ : ∃ m, n - k = m := ⟨_, rfl⟩
    rw [hm] at p0
    clear hx pf
    by_cases hlt : k < n
    · have tz : decide (0 < m) = true := decide_eq_true (by omega)
      have tz2 : decide ((0 : Int) < (m : Int)) = true := decide_eq_true (by omega)
      have HKn := hid (show k < X.n by rw [HXn.out]; exact hlt)
      clear hm
      go_upto_region 10 with (first
        | (go_at_call 34; (with_reducible refine (HAt.out k _ HSt.out.at_).mono ?_); rintro e' w5 ⟨rfl, hb5⟩; have HL5 := hid (HSt.out.on hb5); have hs5 : BP < w5.heap.size := (by have := HL5.out.at_.lt; rw [HXb.out] at this; exact this); clear hb5)
        | (at_builtin; refine wpList_append_new rfl _ _ 41 rfl (X.BP + 1) 3 i4 (.int .i64 0) 1 8 Tryd.underlying41 Bi.out Bz0.out Bz1.out Bz2.out rfl (by decide) _ _ _ rfl (HL5.out.beg.alloc _) ⟨w5.heap.size, 0, none⟩ 1 1 [.int .i64 (posAt s l k)] rfl rfl (new_row (by rfl)) (by simp [Value.oneCell']) (by unfold maxLen; omega) (by omega) (by rw [HXb.out]; simp; omega) ?_; intro v6 w6 hown6 hg6 hv6; obtain ⟨A6, c6, rfl⟩ := own_form hown6; have HM := hid (HL5.out.note HE.out (by rw [HXl.out]; exact hown6) hg6 hv6); clear hown6 hg6 hv6)
        | (go_at_call 35; (with_reducible refine (HRu.out k _ HM.out.at_).mono ?_); intro e' w7 hru; obtain ⟨r, y, k2, ok, rfl, h7⟩ := par_of HM.out hru; have H7 := hid h7; have hz : RBox w7.heap.size noRul noWSl (w7.alloc (.cells #[.string ⟨#[]⟩, .int .i64 0, .int .u32 0, .int .i64 0, .int .u32 0, .int .i64 0, .int .i64 0, .int .i64 0, .int .i64 0, .int .i64 0, .int .i64 0, .int .i64 0, .slice none 0 0, .slice none 0 0, .slice none 0 0, .slice none 0 0, .bool false] 67)) := heap_alloc_new w7 _; clear hru h7)
        | (with_reducible refine store_rule (r := r) (y := y) hz rfl _ _ rfl (by go_simp) (by go_simp) ?_))
      obtain ⟨w8, hw8⟩ : ∃ w8, (w7.alloc (.cells #[.string ⟨#[]⟩, .int .i64 0, .int .u32 0, .int .i64 0, .int .u32 0, .int .i64 0, .int .i64 0, .int .i64 0, .int .i64 0, .int .i64 0, .int .i64 0, .int .i64 0, .slice none 0 0, .slice none 0 0, .slice none 0 0, .slice none 0 0, .bool false] 67)).setRow w7.heap.size (rarr r y) = w8 := ⟨_, rfl⟩
      have H8 := hid (show PaR X s (.slice AQ qs.length cQ) (.slice A6 (bg.length + 1) c6) k bg qs r y k2 ok w7.heap.size w8 by rw [← hw8, World.setRow_alloc_new]; exact H7.out)
      simp only [hw8]
      obtain ⟨BR, hBR⟩ : ∃ BR, w7.heap.size = BR := ⟨_, rfl⟩
      rw [hBR] at H8
      simp only [hBR]
      clear hw8 hBR hz H7 tz tz2 p0 p1
      have hin2 : k2 ≤ n := by have := H8.out.at_.in_; rw [HXn.out] at this; exact this
      cases ok with
      | false =>
        have hE : rulesA (Kd l 0) = .error (Kd l k2) := by
          have h1 := HSt.out.rules
          have h2 := H8.out.bad rfl
          rw [HXl.out] at h1 h2
          rw [h1]
          exact rules_bad (by rw [Hn.out]; exact hlt) h2 done
        have hP := parse_bad HH.out hE (by rw [Hn.out]; exact hin2)
        rw [HR.out] at hP
        have HQ := hid hP
        clear hE hP
        go_wp2_with (go_at_call 34; (with_reducible refine (HAt.out k2 _ H8.out.at_).mono ?_); rintro e' w9 ⟨rfl, hb9⟩; have HB9 := hid ((HXw.out ▸ H8.out.at_.bel).trans (hb9.mono (HXw.out ▸ H8.out.at_.bel.size))); clear hb9)
        go_ret3
        have := parseAns_none (w := w) (show parseS s = ([], posAt s l k2, 3) by rw [HR.out]; exact HQ.out) HB9.out
        rw [HR.out] at this
        exact this
      | true =>
        have hsz8 : BP < w8.heap.size := by have := H8.out.at_.lt; rw [HXb.out] at this; exact this
        go_wp2_with (first
          | (with_reducible refine load_rule_lit H8.out.box rfl _ rfl (by go_simp) ?_)
          | (at_builtin; refine wpList_append_own _ rfl _ _ 42 rfl (X.BP + 1) 67 i5 (.agg #[.string ⟨#[]⟩, .int .i64 0, .int .u32 0, .int .i64 0, .int .u32 0, .int .i64 0, .int .i64 0, .int .i64 0, .int .i64 0, .int .i64 0, .int .i64 0, .int .i64 0, .slice none 0 0, .slice none 0 0, .slice none 0 0, .slice none 0 0, .bool false]) 17 208 Tryd.underlying42 Ai.out Az0.out Az1.out Az2.out rfl (by decide) _ _ _ rfl (H8.out.own.alloc _) ⟨w8.heap.size, 0, none⟩ 1 1 (rarr r y).toList rfl rfl (new_row (by rfl)) (by simp [rarr, Value.oneCell']) (by unfold maxLen; omega) (by omega) (by rw [HXb.out]; simp; omega) ?_; intro v9 w9 hown9 hg9 _; obtain ⟨A9, c9, rfl⟩ := own_form hown9; have HNx := hid (PaR.put HSt.out HE.out HKn.out H8.out hown9 hg9); clear hown9 hg9))
        have hl9 : (bg ++ [posAt s X.l k]).length = bg.length + 1 := by simp
        go_roundw
        case rel => exact ⟨k2, _, _, _, by simp [lenOf], HNx⟩
        case measure => simp [lenOf] at hlv ⊢; omega
    · obtain rfl : k = n := by omega
      obtain rfl : m = 0 := by omega
      have tz : decide ((0 : Int) < ((0 : Nat) : Int)) = false := by decide
      have hE : rulesA (Kd l k) = .ok [] := by rw [Kd_none (by rw [Hn.out]; exact Nat.le_refl _)]; rfl
      have hD : rulesA (Kd l 0) = .ok done := by
        have h1 := HSt.out.rules
        rw [HXl.out] at h1
        rw [h1, hE]; simp [contR]
      have hP := parse_ok HH.out hD
      rw [HR.out] at hP
      have hdl : done.length = qs.length := by have := congrArg List.length HSt.out.same; simpa using this.symm
      have HBw := hid (HXw.out ▸ HSt.out.at_.bel)
      by_cases hd : 20 < qs.length
      · rw [if_pos (by rw [hdl]; exact hd)] at hP
        have hbg : bg[20]? = some (longS s l done) := by
          rw [HSt.out.bgl, List.getElem?_map]
          unfold longS
          rw [List.getElem?_eq_getElem (show 20 < done.length by omega)]
          show some (posAt s X.l (X.l.length - (done[20]).1)) = _
          rw [HXl.out]
        obtain ⟨Z, hZ2⟩ : ∃ Z, longS s l done = Z := ⟨_, rfl⟩
        rw [hZ2] at hP hbg
        have HQ := hid hP
        have t1 : decide ((20 : Int) < (qs.length : Int)) = true := decide_eq_true (by omega)
        have t2 : decide (20 < qs.length) = true := decide_eq_true hd
        have hr := own_ri HSt.out.beg rfl
        obtain ⟨b, off, hA, _, hc⟩ := hr.2 (by have := hbl.out; omega)
        subst hA
        have hcz := hc 20 Z hbg
        have hlb : (20 : Int) < (bg.length : Int) := by have := hbl.out; omega
        clear hE hD hP hdl hbg hZ2 hr hc hd
        go_wp2_with fail
        go_big_quiet (fail)
        go_wp2_with fail
        go_ret3
        exact ⟨below_drewN HBw.out, none, 0, [], by rw [HQ.out]; rfl, by rw [HQ.out]; rfl, ⟨rfl, Nat.le_refl _, fun _ => ⟨rfl, rfl⟩, fun hn => by simp at hn, fun q hq => by simp at hq⟩⟩
      · rw [if_neg (by rw [hdl]; exact hd)] at hP
        have HQ := hid hP
        have t1 : decide ((20 : Int) < (qs.length : Int)) = false := decide_eq_false (by omega)
        have t2 : decide (20 < qs.length) = false := decide_eq_false hd
        have Hsame := hid HSt.out.same
        clear hE hD hP hdl hd
        go_wp2_with fail
        go_ret3
        refine ⟨HBw.out, AQ, cQ, qs, by rw [HQ.out]; exact Hsame.out, by rw [HQ.out]; rfl, own_rrul HSt.out.own fun q hq => rown_warg (HSt.out.lists q hq).own (fits_of (HSt.out.nums q hq))⟩
theorem lparse_any (s : List UInt8) (w : World) (hL : Ld w) (hs : s.length ≤ 9223372036854775807) : Calls Tryd.prog 19 #[.string (txt s)] w (ParseAns (parseS s) w) := by
  obtain ⟨l, a, e, h⟩ : ∃ l a e, splitS s = (l, a, e) := ⟨_, _, _, rfl⟩
  by_cases he : e = 0
  · subst he
    exact lparse_in s w hL hs h
  · exact lparse_not s w hs h he
end Go.Proofs.YtcmkcloapenpnaaDoor
