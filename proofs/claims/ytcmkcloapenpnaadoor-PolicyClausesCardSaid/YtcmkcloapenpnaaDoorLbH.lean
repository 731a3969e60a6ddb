/- Landed policy: clause. -/
import Derived.Test.YtcmkcloapenpnaaDoorLbA
import Derived.BigQuiet
namespace Go.Proofs.YtcmkcloapenpnaaDoor
open Go.RowKit
set_option maxHeartbeats 6400000
set_option maxRecDepth 100000
/-- The lists of a rule are a call's own, from block b on. -/
structure RoB (b : Nat) (w : World) (x : Wnt) (y : WSl) : Prop where
  via : w.ownsRow b 3 1 (.slice y.av y.nv y.cv) y.nv (icells x.via)
  nds : w.ownsRow b 3 1 (.slice y.an y.nn y.cn) y.nn (icells x.nds)
  lks : w.ownsRow b 3 1 (.slice y.al y.nl y.cl) y.nl (icells x.lks)
  cls : w.ownsRow b 3 1 (.slice y.ac y.nc y.cc) y.nc (icells x.cls)
theorem RoB.any {b : Nat} {w w' : World} {x : Wnt} {y : WSl} (h : RoB b w x y) (ha : ∀ {m : Nat} {v : Value} {xs : List Value}, w.ownsRow b 3 1 v m xs → w'.ownsRow b 3 1 v m xs) : RoB b w' x y := ⟨ha h.via, ha h.nds, ha h.lks, ha h.cls⟩
theorem RoB.own {b : Nat} {w : World} {x : Wnt} {y : WSl} (h : RoB b w x y) : ROwn w x y := ⟨own_mono h.via (Nat.zero_le _), own_mono h.nds (Nat.zero_le _), own_mono h.lks (Nat.zero_le _), own_mono h.cls (Nat.zero_le _)⟩
theorem rob_but {b : Nat} {w w' : World} {C : Nat} {x : Wnt} {y : WSl} {t : TypeId} {cs : Array Value} {fz : Nat × Nat} (h : RoB b w x y) (hb : But C w w') (ho : w.heap[C]? = some (.cells cs t fz)) (hne : 3 ≠ t) : RoB b w' x y := h.any fun hh => own_but hh hb ho hne
def fld (j : Nat) (y : WSl) : Option Addr × Nat × Nat := match j with
  | 0 => (y.av, y.nv, y.cv)
  | 1 => (y.an, y.nn, y.cn)
  | 2 => (y.al, y.nl, y.cl)
  | _ => (y.ac, y.nc, y.cc)
/-- What a clause of word i tells. -/
def ClR (X : Rdr) (b BR k i : Nat) (r : Rul) (y : WSl) (w : World) (ok : Bool) (w' : World) : Prop :=
  But2 X.BP BR w w' ∧ ∃ r' y' k', Box X BR (rarr r' y') 67 w' ∧ At X k' w' ∧ RoB b w' r'.x y' ∧ (∀ j, j < 4 → j ≠ i → fld j y' = fld j y) ∧
    (ok = true → clauseI i r (Kd X.l (k + 1)) = .ok (r', Kd X.l k') ∨ (clauseI i r (Kd X.l (k + 1)) = .error (Kd X.l k') ∧ isS X.l k' 2 = true)) ∧ (ok = false → clauseI i r (Kd X.l (k + 1)) = .error (Kd X.l k'))
theorem rown_but2 {X : Rdr} {b BR k : Nat} {cs : Array Value} {w w' : World} {x : Wnt} {y : WSl} (h : RoB b w x y) (ha : At X k w) (hx : Box X BR cs 67 w) (hb : But2 X.BP BR w w') : RoB b w' x y := by
  obtain ⟨A', c', h1, _⟩ := ha.box
  exact h.any fun ho => own_but2 ho hb h1 (by decide) hx.box (by decide)
theorem Box.but2 {X : Rdr} {B k : Nat} {cs : Array Value} {T : TypeId} {w w' : World} (h : Box X B cs T w) (ha : At X k w) (hb : But X.BP w w') : Box X B cs T w' := h.but hb (h.ne ha)
theorem cl_num {X : Rdr} {b BR k i off : Nat} {r : Rul} {y : WSl} {w w1 w' : World} {e : Ending} (f : Rul → Nat → Rul) (hi : ∀ ts, clauseI i r ts = withN f r ts) (hcs : ∀ v : Nat, (rarr r y).setIfInBounds off (.int .i64 (v : Int)) = rarr (f r v) y)
    (hl : ∀ v, (f r v).x.via = r.x.via ∧ (f r v).x.nds = r.x.nds ∧ (f r v).x.lks = r.x.lks ∧ (f r v).x.cls = r.x.cls) (hb0 : But2 X.BP BR w w1) (h1 : At X (k + 1) w1) (hx1 : Box X BR (rarr r y) 67 w1) (ho : RoB b w1 r.x y)
    (h : WrAns X (k + 1) BR 67 w1 ((numAt X.l (k + 1)).map fun v => (rarr r y).setIfInBounds off (.int .i64 (v : Int))) e w') : ∃ ok, e = .returned (.bool ok) ∧ ClR X b BR k i r y w ok w' := by
  rcases h with ⟨cs', h2, rfl, h3, h4, h5⟩ | ⟨h2, rfl, h3⟩
  · cases hv : numAt X.l (k + 1) with
    | none => rw [hv] at h2; cases h2
    | some v =>
      rw [hv] at h2
      obtain rfl : _ = cs' := Option.some.inj h2
      refine ⟨true, rfl, hb0.trans h3, f r v, y, k + 1 + 1, by rw [← hcs]; exact h4, h5, ?_, fun _ _ _ => rfl, fun _ => .inl ?_, fun hh => by cases hh⟩
      · have := rown_but2 ho h1 hx1 h3
        obtain ⟨e1, e2, e3, e4⟩ := hl v
        exact ⟨by rw [e1]; exact this.via, by rw [e2]; exact this.nds, by rw [e3]; exact this.lks, by rw [e4]; exact this.cls⟩
      · rw [hi]
        unfold withN
        rw [(num1_at hv).1]
  · have hv : numAt X.l (k + 1) = none := by
      cases hv : numAt X.l (k + 1) with
      | none => rfl
      | some v => rw [hv] at h2; cases h2
    refine ⟨false, rfl, hb0.trans (But2.fst (But.of h3)), r, y, k + 1, hx1.on h3, h1.on h3, ho.any fun hh => own_below hh h3, fun _ _ _ => rfl, fun hh => (by cases hh), fun _ => ?_⟩
    rw [hi]
    unfold withN
    rw [num1_bad hv]
theorem cl_pref {X : Rdr} {b BR k i off : Nat} {r : Rul} {y : WSl} {w w1 w' : World} {e : Ending} (f : Rul → Nat → Nat → Rul) (hi : ∀ ts, clauseI i r ts = withP f r ts) (hcs : ∀ a n : Nat, ((rarr r y).setIfInBounds off (.int .u32 (a : Int))).setIfInBounds (off + 1) (.int .i64 (n : Int)) = rarr (f r a n) y)
    (hl : ∀ a n, (f r a n).x = r.x) (hb0 : But2 X.BP BR w w1) (h1 : At X (k + 1) w1) (hx1 : Box X BR (rarr r y) 67 w1) (ho : RoB b w1 r.x y)
    (h : WrAns X (k + 1) BR 67 w1 ((prefAt X.l (k + 1)).map fun p => ((rarr r y).setIfInBounds off (.int .u32 (p.1 : Int))).setIfInBounds (off + 1) (.int .i64 (p.2 : Int))) e w') : ∃ ok, e = .returned (.bool ok) ∧ ClR X b BR k i r y w ok w' := by
  have hd := pref_dev h1.ok (k + 1)
  rcases h with ⟨cs', h2, rfl, h3, h4, h5⟩ | ⟨h2, rfl, h3⟩
  · rcases hd with ⟨p, hp, hq, _⟩ | ⟨hp, _⟩
    · rw [hp] at h2
      obtain rfl : _ = cs' := Option.some.inj h2
      refine ⟨true, rfl, hb0.trans h3, f r p.1 p.2, y, k + 1 + 1, by rw [← hcs]; exact h4, h5, ?_, fun _ _ _ => rfl, fun _ => .inl ?_, fun hh => by cases hh⟩
      · rw [hl]; exact rown_but2 ho h1 hx1 h3
      · rw [hi]
        unfold withP
        rw [hq]
    · rw [hp] at h2; cases h2
  · rcases hd with ⟨p, hp, _, _⟩ | ⟨_, hq⟩
    · rw [hp] at h2; cases h2
    · refine ⟨false, rfl, hb0.trans (But2.fst (But.of h3)), r, y, k + 1, hx1.on h3, h1.on h3, ho.any fun hh => own_below hh h3, fun _ _ _ => rfl, fun hh => (by cases hh), fun _ => ?_⟩
      rw [hi]
      unfold withP
      rw [hq]
theorem cl_nums {X : Rdr} {b BR k i off : Nat} {r : Rul} {y : WSl} {w w1 w' : World} {e : Ending} (f : Rul → List Int → Rul) (g : WSl → Option Addr → Nat → Nat → WSl) (hi : ∀ ts, clauseI i r ts = withL f r ts) (hcs : ∀ L A n c, (rarr r y).setIfInBounds off (.slice A n c) = rarr (f r L) (g y A n c))
    (hl : ∀ (W : World) (L : List Int) A n c, RoB b W r.x y → W.ownsRow b 3 1 (.slice A n c) n (icells L) → RoB b W (f r L).x (g y A n c)) (hbw : b ≤ w1.heap.size) (hf : ∀ A n c j, j < 4 → j ≠ i → fld j (g y A n c) = fld j y) (hb0 : But2 X.BP BR w w1) (h1 : At X (k + 1) w1) (hx1 : Box X BR (rarr r y) 67 w1) (ho : RoB b w1 r.x y)
    (h : NmAns X (k + 1) BR off (rarr r y) 67 w1 e w') : ∃ ok, e = .returned (.bool ok) ∧ ClR X b BR k i r y w ok w' := by
  obtain ⟨hb, L, A5, c5, rfl, hbx, hown, hat, hn, hy⟩ := h
  refine ⟨_, rfl, hb0.trans hb, f r (L.map Int.ofNat), g y A5 L.length c5, k + 1 + L.length, by rw [← hcs]; exact hbx, hat, hl _ _ _ _ _ (rown_but2 ho h1 hx1 hb) (own_mono hown hbw), hf _ _ _, fun hh => ?_, fun hh => ?_⟩
  · have h0 : L ≠ [] := fun h0 => by rw [h0] at hh; exact absurd hh (by decide)
    rcases hy h0 with ⟨_, h3⟩ | ⟨h2, h3⟩
    · left; rw [hi]; unfold withL; rw [h3]
    · right; exact ⟨by rw [hi]; unfold withL; rw [h3], h2⟩
  · have h0 : L = [] := by
      cases L with
      | nil => rfl
      | cons a t => exact absurd hh (by simp)
    subst h0
    rw [hi]
    unfold withL
    rw [hn rfl]; rfl
theorem takes_no {X : Rdr} {k : Nat} {W Y : List UInt8} (hY : textAt X.l k = Y) (hne : Y ≠ W) (hW : W ≠ []) (wx : World) (h : At X k wx) : Calls Tryd.prog 53 #[.pointer (some ⟨X.BP, 0, none⟩), .string (txt W)] wx fun e w' => e = .returned (.bool false) ∧ Below wx.heap.size wx w' :=
  (takes_any X k W wx h hW).mono fun e w' hh => by
    rcases hh with ⟨h1, _⟩ | ⟨_, h2, h3⟩
    · exact absurd (hY.symm.trans h1) hne
    · exact ⟨h2, h3⟩
theorem takes_yes {X : Rdr} {k : Nat} {W : List UInt8} (hY : textAt X.l k = W) (hW : W ≠ []) (wx : World) (h : At X k wx) : Calls Tryd.prog 53 #[.pointer (some ⟨X.BP, 0, none⟩), .string (txt W)] wx fun e w' => e = .returned (.bool true) ∧ But X.BP wx w' ∧ At X (k + 1) w' :=
  (takes_any X k W wx h hW).mono fun e w' hh => by
    rcases hh with ⟨_, h2, h3, h4⟩ | ⟨h1, _⟩
    · exact ⟨h2, h3, h4⟩
    · exact absurd hY h1
theorem rclause_no (X : Rdr) (BR k : Nat) (w : World) (h : At X k w) (hw : wordIx (textAt X.l k) = 13) :
    Calls Tryd.prog 57 #[.pointer (some ⟨X.BP, 0, none⟩), .pointer (some ⟨BR, 0, none⟩)] w fun e w' => e = .returned (.bool false) ∧ Below w.heap.size w w' := by
  have F11 : Hid (∀ wx : World, At X k wx → Calls Tryd.prog 53 #[.pointer (some ⟨X.BP, 0, none⟩), .string ⟨#[102, 114, 111, 109]⟩] wx fun e w' => e = .returned (.bool false) ∧ Below wx.heap.size wx w') := fun wx hh => takes_no (W := wordL 11) rfl (wordIx_ne hw 11 (by decide)) (by decide) wx hh
  have F12 : Hid (∀ wx : World, At X k wx → Calls Tryd.prog 53 #[.pointer (some ⟨X.BP, 0, none⟩), .string ⟨#[116, 111]⟩] wx fun e w' => e = .returned (.bool false) ∧ Below wx.heap.size wx w') := fun wx hh => takes_no (W := wordL 12) rfl (wordIx_ne hw 12 (by decide)) (by decide) wx hh
  have F0 : Hid (∀ wx : World, At X k wx → Calls Tryd.prog 53 #[.pointer (some ⟨X.BP, 0, none⟩), .string ⟨#[118, 105, 97]⟩] wx fun e w' => e = .returned (.bool false) ∧ Below wx.heap.size wx w') := fun wx hh => takes_no (W := wordL 0) rfl (wordIx_ne hw 0 (by decide)) (by decide) wx hh
  have F1 : Hid (∀ wx : World, At X k wx → Calls Tryd.prog 53 #[.pointer (some ⟨X.BP, 0, none⟩), .string ⟨#[97, 118, 111, 105, 100, 45, 110, 111, 100, 101, 115]⟩] wx fun e w' => e = .returned (.bool false) ∧ Below wx.heap.size wx w') := fun wx hh => takes_no (W := wordL 1) rfl (wordIx_ne hw 1 (by decide)) (by decide) wx hh
  have F2 : Hid (∀ wx : World, At X k wx → Calls Tryd.prog 53 #[.pointer (some ⟨X.BP, 0, none⟩), .string ⟨#[97, 118, 111, 105, 100, 45, 108, 105, 110, 107, 115]⟩] wx fun e w' => e = .returned (.bool false) ∧ Below wx.heap.size wx w') := fun wx hh => takes_no (W := wordL 2) rfl (wordIx_ne hw 2 (by decide)) (by decide) wx hh
  have F3 : Hid (∀ wx : World, At X k wx → Calls Tryd.prog 53 #[.pointer (some ⟨X.BP, 0, none⟩), .string ⟨#[97, 118, 111, 105, 100, 45, 99, 111, 108, 111, 117, 114, 115]⟩] wx fun e w' => e = .returned (.bool false) ∧ Below wx.heap.size wx w') := fun wx hh => takes_no (W := wordL 3) rfl (wordIx_ne hw 3 (by decide)) (by decide) wx hh
  have F4 : Hid (∀ wx : World, At X k wx → Calls Tryd.prog 53 #[.pointer (some ⟨X.BP, 0, none⟩), .string ⟨#[99, 111, 115, 116]⟩] wx fun e w' => e = .returned (.bool false) ∧ Below wx.heap.size wx w') := fun wx hh => takes_no (W := wordL 4) rfl (wordIx_ne hw 4 (by decide)) (by decide) wx hh
  have F5 : Hid (∀ wx : World, At X k wx → Calls Tryd.prog 53 #[.pointer (some ⟨X.BP, 0, none⟩), .string ⟨#[115, 114, 99]⟩] wx fun e w' => e = .returned (.bool false) ∧ Below wx.heap.size wx w') := fun wx hh => takes_no (W := wordL 5) rfl (wordIx_ne hw 5 (by decide)) (by decide) wx hh
  have F6 : Hid (∀ wx : World, At X k wx → Calls Tryd.prog 53 #[.pointer (some ⟨X.BP, 0, none⟩), .string ⟨#[100, 115, 116]⟩] wx fun e w' => e = .returned (.bool false) ∧ Below wx.heap.size wx w') := fun wx hh => takes_no (W := wordL 6) rfl (wordIx_ne hw 6 (by decide)) (by decide) wx hh
  have F7 : Hid (∀ wx : World, At X k wx → Calls Tryd.prog 53 #[.pointer (some ⟨X.BP, 0, none⟩), .string ⟨#[112, 114, 111, 116, 111]⟩] wx fun e w' => e = .returned (.bool false) ∧ Below wx.heap.size wx w') := fun wx hh => takes_no (W := wordL 7) rfl (wordIx_ne hw 7 (by decide)) (by decide) wx hh
  have F8 : Hid (∀ wx : World, At X k wx → Calls Tryd.prog 53 #[.pointer (some ⟨X.BP, 0, none⟩), .string ⟨#[115, 112, 111, 114, 116]⟩] wx fun e w' => e = .returned (.bool false) ∧ Below wx.heap.size wx w') := fun wx hh => takes_no (W := wordL 8) rfl (wordIx_ne hw 8 (by decide)) (by decide) wx hh
  have F9 : Hid (∀ wx : World, At X k wx → Calls Tryd.prog 53 #[.pointer (some ⟨X.BP, 0, none⟩), .string ⟨#[100, 112, 111, 114, 116]⟩] wx fun e w' => e = .returned (.bool false) ∧ Below wx.heap.size wx w') := fun wx hh => takes_no (W := wordL 9) rfl (wordIx_ne hw 9 (by decide)) (by decide) wx hh
  have F10 : Hid (∀ wx : World, At X k wx → Calls Tryd.prog 53 #[.pointer (some ⟨X.BP, 0, none⟩), .string ⟨#[115, 116, 114, 105, 99, 116]⟩] wx fun e w' => e = .returned (.bool false) ∧ Below wx.heap.size wx w') := fun wx hh => takes_no (W := wordL 10) rfl (wordIx_ne hw 10 (by decide)) (by decide) wx hh
  have HH := hid h
  clear h hw
  go_enter Tryd.func57, Tryd.ntmps57
  go_wp2_with fail
  go_big_quiet (fail)
  obtain ⟨wd, hwd⟩ : ∃ wd, (w.drewN nq) = wd := ⟨_, rfl⟩
  have HB0 := hid (show Below w.heap.size w wd from hwd ▸ below_drewN (Below.refl _ _))
  have HA0 := hid (HH.out.on HB0.out)
  rw [hwd]
  clear hwd
  go_wp2_with (first
    | (go_at_call 53; (with_reducible refine (F11.out _ HA0.out).mono ?_); rintro e' w1 ⟨rfl, hb1⟩; have HA1 := hid (HA0.out.on hb1); have HB1 := hid (HB0.out.trans (hb1.mono HB0.out.size)); clear hb1)
    | (go_at_call 53; (with_reducible refine (F12.out _ HA1.out).mono ?_); rintro e' w2 ⟨rfl, hb2⟩; have HA2 := hid (HA1.out.on hb2); have HB2 := hid (HB1.out.trans (hb2.mono HB1.out.size)); clear hb2)
    | (go_at_call 53; (with_reducible refine (F0.out _ HA2.out).mono ?_); rintro e' w3 ⟨rfl, hb3⟩; have HA3 := hid (HA2.out.on hb3); have HB3 := hid (HB2.out.trans (hb3.mono HB2.out.size)); clear hb3)
    | (go_at_call 53; (with_reducible refine (F1.out _ HA3.out).mono ?_); rintro e' w4 ⟨rfl, hb4⟩; have HA4 := hid (HA3.out.on hb4); have HB4 := hid (HB3.out.trans (hb4.mono HB3.out.size)); clear hb4)
    | (go_at_call 53; (with_reducible refine (F2.out _ HA4.out).mono ?_); rintro e' w5 ⟨rfl, hb5⟩; have HA5 := hid (HA4.out.on hb5); have HB5 := hid (HB4.out.trans (hb5.mono HB4.out.size)); clear hb5)
    | (go_at_call 53; (with_reducible refine (F3.out _ HA5.out).mono ?_); rintro e' w6 ⟨rfl, hb6⟩; have HA6 := hid (HA5.out.on hb6); have HB6 := hid (HB5.out.trans (hb6.mono HB5.out.size)); clear hb6)
    | (go_at_call 53; (with_reducible refine (F4.out _ HA6.out).mono ?_); rintro e' w7 ⟨rfl, hb7⟩; have HA7 := hid (HA6.out.on hb7); have HB7 := hid (HB6.out.trans (hb7.mono HB6.out.size)); clear hb7)
    | (go_at_call 53; (with_reducible refine (F5.out _ HA7.out).mono ?_); rintro e' w8 ⟨rfl, hb8⟩; have HA8 := hid (HA7.out.on hb8); have HB8 := hid (HB7.out.trans (hb8.mono HB7.out.size)); clear hb8)
    | (go_at_call 53; (with_reducible refine (F6.out _ HA8.out).mono ?_); rintro e' w9 ⟨rfl, hb9⟩; have HA9 := hid (HA8.out.on hb9); have HB9 := hid (HB8.out.trans (hb9.mono HB8.out.size)); clear hb9)
    | (go_at_call 53; (with_reducible refine (F7.out _ HA9.out).mono ?_); rintro e' w10 ⟨rfl, hb10⟩; have HA10 := hid (HA9.out.on hb10); have HB10 := hid (HB9.out.trans (hb10.mono HB9.out.size)); clear hb10)
    | (go_at_call 53; (with_reducible refine (F8.out _ HA10.out).mono ?_); rintro e' w11 ⟨rfl, hb11⟩; have HA11 := hid (HA10.out.on hb11); have HB11 := hid (HB10.out.trans (hb11.mono HB10.out.size)); clear hb11)
    | (go_at_call 53; (with_reducible refine (F9.out _ HA11.out).mono ?_); rintro e' w12 ⟨rfl, hb12⟩; have HA12 := hid (HA11.out.on hb12); have HB12 := hid (HB11.out.trans (hb12.mono HB11.out.size)); clear hb12)
    | (go_at_call 53; (with_reducible refine (F10.out _ HA12.out).mono ?_); rintro e' w13 ⟨rfl, hb13⟩; have HA13 := hid (HA12.out.on hb13); have HB13 := hid (HB12.out.trans (hb13.mono HB12.out.size)); clear hb13))
  go_ret
  exact ⟨rfl, HB13.out⟩
theorem rclause_0 (X : Rdr) (b BR k : Nat) (r : Rul) (y : WSl) (w : World) (h : At X k w) (hx : Box X BR (rarr r y) 67 w) (ho : RoB b w r.x y) (hw : textAt X.l k = wordL 0) (hy : fld 0 y = (none, 0, 0)) (hbw : b ≤ w.heap.size) :
    Calls Tryd.prog 57 #[.pointer (some ⟨X.BP, 0, none⟩), .pointer (some ⟨BR, 0, none⟩)] w fun e w' => ∃ ok, e = .returned (.bool ok) ∧ ClR X b BR k 0 r y w ok w' := by
  have F11 : Hid (∀ wx : World, At X k wx → Calls Tryd.prog 53 #[.pointer (some ⟨X.BP, 0, none⟩), .string ⟨#[102, 114, 111, 109]⟩] wx fun e w' => e = .returned (.bool false) ∧ Below wx.heap.size wx w') := fun wx hh => takes_no (W := wordL 11) hw (show wordL 0 ≠ wordL 11 by decide) (by decide) wx hh
  have F12 : Hid (∀ wx : World, At X k wx → Calls Tryd.prog 53 #[.pointer (some ⟨X.BP, 0, none⟩), .string ⟨#[116, 111]⟩] wx fun e w' => e = .returned (.bool false) ∧ Below wx.heap.size wx w') := fun wx hh => takes_no (W := wordL 12) hw (show wordL 0 ≠ wordL 12 by decide) (by decide) wx hh
  have FY : Hid (∀ wx : World, At X k wx → Calls Tryd.prog 53 #[.pointer (some ⟨X.BP, 0, none⟩), .string ⟨#[118, 105, 97]⟩] wx fun e w' => e = .returned (.bool true) ∧ But X.BP wx w' ∧ At X (k + 1) w') := fun wx hh => takes_yes (W := wordL 0) hw (by decide) wx hh
  have HX := hid hx
  have HO := hid ho
  have HY := hid hy
  have HH := hid h
  clear h hw hx ho hy
  go_enter Tryd.func57, Tryd.ntmps57
  go_wp2_with fail
  go_big_quiet (fail)
  obtain ⟨wd, hwd⟩ : ∃ wd, (w.drewN nq) = wd := ⟨_, rfl⟩
  have HB0 := hid (show Below w.heap.size w wd from hwd ▸ below_drewN (Below.refl _ _))
  have HA0 := hid (HH.out.on HB0.out)
  rw [hwd]
  clear hwd
  go_wp2_with (first
    | (go_at_call 53; (with_reducible refine (F11.out _ HA0.out).mono ?_); rintro e' w1 ⟨rfl, hb1⟩; have HA1 := hid (HA0.out.on hb1); have HB1 := hid (HB0.out.trans (hb1.mono HB0.out.size)); clear hb1)
    | (go_at_call 53; (with_reducible refine (F12.out _ HA1.out).mono ?_); rintro e' w2 ⟨rfl, hb2⟩; have HA2 := hid (HA1.out.on hb2); have HB2 := hid (HB1.out.trans (hb2.mono HB1.out.size)); clear hb2)
    | (go_at_call 53; (with_reducible refine (FY.out _ HA2.out).mono ?_); rintro e' wy ⟨rfl, hby, hay⟩; have HAy := hid hay; have HBy := hid ((But2.fst (C := BR) (But.of HB2.out)).trans (But2.fst hby)); have HXy := hid ((HX.out.on HB2.out).but2 HA2.out hby); have HOy := hid (rown_but2 HO.out HH.out HX.out HBy.out); clear hby hay; have HJ := hid (show (rarr r y)[12]? = some (.slice none 0 0) by have := HY.out; simp only [fld, Prod.mk.injEq] at this; obtain ⟨e1, e2, e3⟩ := this; simp only [rarr, e1, e2, e3]; rfl))
    | (go_at_call 75; (with_reducible refine (rnums_any X (k + 1) BR 12 (rarr r y) 67 _ HAy.out HXy.out HJ.out (by decide)).mono ?_); intro e' wz hz; obtain ⟨ok, rfl, hz2⟩ := cl_nums (i := 0) (fun r v => { r with x := { r.x with via := v } }) (fun y A n c => { y with av := A, nv := n, cv := c }) (fun _ => rfl) (fun _ _ _ _ => rfl) (fun _ _ _ _ _ hr ho => ⟨ho, hr.nds, hr.lks, hr.cls⟩) (Nat.le_trans hbw HBy.out.size) (fun _ _ _ j hj hji => by rcases (show j = 0 ∨ j = 1 ∨ j = 2 ∨ j = 3 by omega) with rfl | rfl | rfl | rfl <;> first | rfl | exact absurd rfl hji) HBy.out HAy.out HXy.out HOy.out hz; have HZ := hid hz2; clear hz hz2))
  go_ret
  exact ⟨ok, rfl, HZ.out⟩
theorem rclause_1 (X : Rdr) (b BR k : Nat) (r : Rul) (y : WSl) (w : World) (h : At X k w) (hx : Box X BR (rarr r y) 67 w) (ho : RoB b w r.x y) (hw : textAt X.l k = wordL 1) (hy : fld 1 y = (none, 0, 0)) (hbw : b ≤ w.heap.size) :
    Calls Tryd.prog 57 #[.pointer (some ⟨X.BP, 0, none⟩), .pointer (some ⟨BR, 0, none⟩)] w fun e w' => ∃ ok, e = .returned (.bool ok) ∧ ClR X b BR k 1 r y w ok w' := by
  have F11 : Hid (∀ wx : World, At X k wx → Calls Tryd.prog 53 #[.pointer (some ⟨X.BP, 0, none⟩), .string ⟨#[102, 114, 111, 109]⟩] wx fun e w' => e = .returned (.bool false) ∧ Below wx.heap.size wx w') := fun wx hh => takes_no (W := wordL 11) hw (show wordL 1 ≠ wordL 11 by decide) (by decide) wx hh
  have F12 : Hid (∀ wx : World, At X k wx → Calls Tryd.prog 53 #[.pointer (some ⟨X.BP, 0, none⟩), .string ⟨#[116, 111]⟩] wx fun e w' => e = .returned (.bool false) ∧ Below wx.heap.size wx w') := fun wx hh => takes_no (W := wordL 12) hw (show wordL 1 ≠ wordL 12 by decide) (by decide) wx hh
  have F0 : Hid (∀ wx : World, At X k wx → Calls Tryd.prog 53 #[.pointer (some ⟨X.BP, 0, none⟩), .string ⟨#[118, 105, 97]⟩] wx fun e w' => e = .returned (.bool false) ∧ Below wx.heap.size wx w') := fun wx hh => takes_no (W := wordL 0) hw (show wordL 1 ≠ wordL 0 by decide) (by decide) wx hh
  have FY : Hid (∀ wx : World, At X k wx → Calls Tryd.prog 53 #[.pointer (some ⟨X.BP, 0, none⟩), .string ⟨#[97, 118, 111, 105, 100, 45, 110, 111, 100, 101, 115]⟩] wx fun e w' => e = .returned (.bool true) ∧ But X.BP wx w' ∧ At X (k + 1) w') := fun wx hh => takes_yes (W := wordL 1) hw (by decide) wx hh
  have HX := hid hx
  have HO := hid ho
  have HY := hid hy
  have HH := hid h
  clear h hw hx ho hy
  go_enter Tryd.func57, Tryd.ntmps57
  go_wp2_with fail
  go_big_quiet (fail)
  obtain ⟨wd, hwd⟩ : ∃ wd, (w.drewN nq) = wd := ⟨_, rfl⟩
  have HB0 := hid (show Below w.heap.size w wd from hwd ▸ below_drewN (Below.refl _ _))
  have HA0 := hid (HH.out.on HB0.out)
  rw [hwd]
  clear hwd
  go_wp2_with (first
    | (go_at_call 53; (with_reducible refine (F11.out _ HA0.out).mono ?_); rintro e' w1 ⟨rfl, hb1⟩; have HA1 := hid (HA0.out.on hb1); have HB1 := hid (HB0.out.trans (hb1.mono HB0.out.size)); clear hb1)
    | (go_at_call 53; (with_reducible refine (F12.out _ HA1.out).mono ?_); rintro e' w2 ⟨rfl, hb2⟩; have HA2 := hid (HA1.out.on hb2); have HB2 := hid (HB1.out.trans (hb2.mono HB1.out.size)); clear hb2)
    | (go_at_call 53; (with_reducible refine (F0.out _ HA2.out).mono ?_); rintro e' w3 ⟨rfl, hb3⟩; have HA3 := hid (HA2.out.on hb3); have HB3 := hid (HB2.out.trans (hb3.mono HB2.out.size)); clear hb3)
    | (go_at_call 53; (with_reducible refine (FY.out _ HA3.out).mono ?_); rintro e' wy ⟨rfl, hby, hay⟩; have HAy := hid hay; have HBy := hid ((But2.fst (C := BR) (But.of HB3.out)).trans (But2.fst hby)); have HXy := hid ((HX.out.on HB3.out).but2 HA3.out hby); have HOy := hid (rown_but2 HO.out HH.out HX.out HBy.out); clear hby hay; have HJ := hid (show (rarr r y)[13]? = some (.slice none 0 0) by have := HY.out; simp only [fld, Prod.mk.injEq] at this; obtain ⟨e1, e2, e3⟩ := this; simp only [rarr, e1, e2, e3]; rfl))
    | (go_at_call 75; (with_reducible refine (rnums_any X (k + 1) BR 13 (rarr r y) 67 _ HAy.out HXy.out HJ.out (by decide)).mono ?_); intro e' wz hz; obtain ⟨ok, rfl, hz2⟩ := cl_nums (i := 1) (fun r v => { r with x := { r.x with nds := v } }) (fun y A n c => { y with an := A, nn := n, cn := c }) (fun _ => rfl) (fun _ _ _ _ => rfl) (fun _ _ _ _ _ hr ho => ⟨hr.via, ho, hr.lks, hr.cls⟩) (Nat.le_trans hbw HBy.out.size) (fun _ _ _ j hj hji => by rcases (show j = 0 ∨ j = 1 ∨ j = 2 ∨ j = 3 by omega) with rfl | rfl | rfl | rfl <;> first | rfl | exact absurd rfl hji) HBy.out HAy.out HXy.out HOy.out hz; have HZ := hid hz2; clear hz hz2))
  go_ret
  exact ⟨ok, rfl, HZ.out⟩
theorem rclause_2 (X : Rdr) (b BR k : Nat) (r : Rul) (y : WSl) (w : World) (h : At X k w) (hx : Box X BR (rarr r y) 67 w) (ho : RoB b w r.x y) (hw : textAt X.l k = wordL 2) (hy : fld 2 y = (none, 0, 0)) (hbw : b ≤ w.heap.size) :
    Calls Tryd.prog 57 #[.pointer (some ⟨X.BP, 0, none⟩), .pointer (some ⟨BR, 0, none⟩)] w fun e w' => ∃ ok, e = .returned (.bool ok) ∧ ClR X b BR k 2 r y w ok w' := by
  have F11 : Hid (∀ wx : World, At X k wx → Calls Tryd.prog 53 #[.pointer (some ⟨X.BP, 0, none⟩), .string ⟨#[102, 114, 111, 109]⟩] wx fun e w' => e = .returned (.bool false) ∧ Below wx.heap.size wx w') := fun wx hh => takes_no (W := wordL 11) hw (show wordL 2 ≠ wordL 11 by decide) (by decide) wx hh
  have F12 : Hid (∀ wx : World, At X k wx → Calls Tryd.prog 53 #[.pointer (some ⟨X.BP, 0, none⟩), .string ⟨#[116, 111]⟩] wx fun e w' => e = .returned (.bool false) ∧ Below wx.heap.size wx w') := fun wx hh => takes_no (W := wordL 12) hw (show wordL 2 ≠ wordL 12 by decide) (by decide) wx hh
  have F0 : Hid (∀ wx : World, At X k wx → Calls Tryd.prog 53 #[.pointer (some ⟨X.BP, 0, none⟩), .string ⟨#[118, 105, 97]⟩] wx fun e w' => e = .returned (.bool false) ∧ Below wx.heap.size wx w') := fun wx hh => takes_no (W := wordL 0) hw (show wordL 2 ≠ wordL 0 by decide) (by decide) wx hh
  have F1 : Hid (∀ wx : World, At X k wx → Calls Tryd.prog 53 #[.pointer (some ⟨X.BP, 0, none⟩), .string ⟨#[97, 118, 111, 105, 100, 45, 110, 111, 100, 101, 115]⟩] wx fun e w' => e = .returned (.bool false) ∧ Below wx.heap.size wx w') := fun wx hh => takes_no (W := wordL 1) hw (show wordL 2 ≠ wordL 1 by decide) (by decide) wx hh
  have FY : Hid (∀ wx : World, At X k wx → Calls Tryd.prog 53 #[.pointer (some ⟨X.BP, 0, none⟩), .string ⟨#[97, 118, 111, 105, 100, 45, 108, 105, 110, 107, 115]⟩] wx fun e w' => e = .returned (.bool true) ∧ But X.BP wx w' ∧ At X (k + 1) w') := fun wx hh => takes_yes (W := wordL 2) hw (by decide) wx hh
  have HX := hid hx
  have HO := hid ho
  have HY := hid hy
  have HH := hid h
  clear h hw hx ho hy
  go_enter Tryd.func57, Tryd.ntmps57
  go_wp2_with fail
  go_big_quiet (fail)
  obtain ⟨wd, hwd⟩ : ∃ wd, (w.drewN nq) = wd := ⟨_, rfl⟩
  have HB0 := hid (show Below w.heap.size w wd from hwd ▸ below_drewN (Below.refl _ _))
  have HA0 := hid (HH.out.on HB0.out)
  rw [hwd]
  clear hwd
  go_wp2_with (first
    | (go_at_call 53; (with_reducible refine (F11.out _ HA0.out).mono ?_); rintro e' w1 ⟨rfl, hb1⟩; have HA1 := hid (HA0.out.on hb1); have HB1 := hid (HB0.out.trans (hb1.mono HB0.out.size)); clear hb1)
    | (go_at_call 53; (with_reducible refine (F12.out _ HA1.out).mono ?_); rintro e' w2 ⟨rfl, hb2⟩; have HA2 := hid (HA1.out.on hb2); have HB2 := hid (HB1.out.trans (hb2.mono HB1.out.size)); clear hb2)
    | (go_at_call 53; (with_reducible refine (F0.out _ HA2.out).mono ?_); rintro e' w3 ⟨rfl, hb3⟩; have HA3 := hid (HA2.out.on hb3); have HB3 := hid (HB2.out.trans (hb3.mono HB2.out.size)); clear hb3)
    | (go_at_call 53; (with_reducible refine (F1.out _ HA3.out).mono ?_); rintro e' w4 ⟨rfl, hb4⟩; have HA4 := hid (HA3.out.on hb4); have HB4 := hid (HB3.out.trans (hb4.mono HB3.out.size)); clear hb4)
    | (go_at_call 53; (with_reducible refine (FY.out _ HA4.out).mono ?_); rintro e' wy ⟨rfl, hby, hay⟩; have HAy := hid hay; have HBy := hid ((But2.fst (C := BR) (But.of HB4.out)).trans (But2.fst hby)); have HXy := hid ((HX.out.on HB4.out).but2 HA4.out hby); have HOy := hid (rown_but2 HO.out HH.out HX.out HBy.out); clear hby hay; have HJ := hid (show (rarr r y)[14]? = some (.slice none 0 0) by have := HY.out; simp only [fld, Prod.mk.injEq] at this; obtain ⟨e1, e2, e3⟩ := this; simp only [rarr, e1, e2, e3]; rfl))
    | (go_at_call 75; (with_reducible refine (rnums_any X (k + 1) BR 14 (rarr r y) 67 _ HAy.out HXy.out HJ.out (by decide)).mono ?_); intro e' wz hz; obtain ⟨ok, rfl, hz2⟩ := cl_nums (i := 2) (fun r v => { r with x := { r.x with lks := v } }) (fun y A n c => { y with al := A, nl := n, cl := c }) (fun _ => rfl) (fun _ _ _ _ => rfl) (fun _ _ _ _ _ hr ho => ⟨hr.via, hr.nds, ho, hr.cls⟩) (Nat.le_trans hbw HBy.out.size) (fun _ _ _ j hj hji => by rcases (show j = 0 ∨ j = 1 ∨ j = 2 ∨ j = 3 by omega) with rfl | rfl | rfl | rfl <;> first | rfl | exact absurd rfl hji) HBy.out HAy.out HXy.out HOy.out hz; have HZ := hid hz2; clear hz hz2))
  go_ret
  exact ⟨ok, rfl, HZ.out⟩
theorem rclause_3 (X : Rdr) (b BR k : Nat) (r : Rul) (y : WSl) (w : World) (h : At X k w) (hx : Box X BR (rarr r y) 67 w) (ho : RoB b w r.x y) (hw : textAt X.l k = wordL 3) (hy : fld 3 y = (none, 0, 0)) (hbw : b ≤ w.heap.size) :
    Calls Tryd.prog 57 #[.pointer (some ⟨X.BP, 0, none⟩), .pointer (some ⟨BR, 0, none⟩)] w fun e w' => ∃ ok, e = .returned (.bool ok) ∧ ClR X b BR k 3 r y w ok w' := by
  have F11 : Hid (∀ wx : World, At X k wx → Calls Tryd.prog 53 #[.pointer (some ⟨X.BP, 0, none⟩), .string ⟨#[102, 114, 111, 109]⟩] wx fun e w' => e = .returned (.bool false) ∧ Below wx.heap.size wx w') := fun wx hh => takes_no (W := wordL 11) hw (show wordL 3 ≠ wordL 11 by decide) (by decide) wx hh
  have F12 : Hid (∀ wx : World, At X k wx → Calls Tryd.prog 53 #[.pointer (some ⟨X.BP, 0, none⟩), .string ⟨#[116, 111]⟩] wx fun e w' => e = .returned (.bool false) ∧ Below wx.heap.size wx w') := fun wx hh => takes_no (W := wordL 12) hw (show wordL 3 ≠ wordL 12 by decide) (by decide) wx hh
  have F0 : Hid (∀ wx : World, At X k wx → Calls Tryd.prog 53 #[.pointer (some ⟨X.BP, 0, none⟩), .string ⟨#[118, 105, 97]⟩] wx fun e w' => e = .returned (.bool false) ∧ Below wx.heap.size wx w') := fun wx hh => takes_no (W := wordL 0) hw (show wordL 3 ≠ wordL 0 by decide) (by decide) wx hh
  have F1 : Hid (∀ wx : World, At X k wx → Calls Tryd.prog 53 #[.pointer (some ⟨X.BP, 0, none⟩), .string ⟨#[97, 118, 111, 105, 100, 45, 110, 111, 100, 101, 115]⟩] wx fun e w' => e = .returned (.bool false) ∧ Below wx.heap.size wx w') := fun wx hh => takes_no (W := wordL 1) hw (show wordL 3 ≠ wordL 1 by decide) (by decide) wx hh
  have F2 : Hid (∀ wx : World, At X k wx → Calls Tryd.prog 53 #[.pointer (some ⟨X.BP, 0, none⟩), .string ⟨#[97, 118, 111, 105, 100, 45, 108, 105, 110, 107, 115]⟩] wx fun e w' => e = .returned (.bool false) ∧ Below wx.heap.size wx w') := fun wx hh => takes_no (W := wordL 2) hw (show wordL 3 ≠ wordL 2 by decide) (by decide) wx hh
  have FY : Hid (∀ wx : World, At X k wx → Calls Tryd.prog 53 #[.pointer (some ⟨X.BP, 0, none⟩), .string ⟨#[97, 118, 111, 105, 100, 45, 99, 111, 108, 111, 117, 114, 115]⟩] wx fun e w' => e = .returned (.bool true) ∧ But X.BP wx w' ∧ At X (k + 1) w') := fun wx hh => takes_yes (W := wordL 3) hw (by decide) wx hh
  have HX := hid hx
  have HO := hid ho
  have HY := hid hy
  have HH := hid h
  clear h hw hx ho hy
  go_enter Tryd.func57, Tryd.ntmps57
  go_wp2_with fail
  go_big_quiet (fail)
  obtain ⟨wd, hwd⟩ : ∃ wd, (w.drewN nq) = wd := ⟨_, rfl⟩
  have HB0 := hid (show Below w.heap.size w wd from hwd ▸ below_drewN (Below.refl _ _))
  have HA0 := hid (HH.out.on HB0.out)
  rw [hwd]
  clear hwd
  go_wp2_with (first
    | (go_at_call 53; (with_reducible refine (F11.out _ HA0.out).mono ?_); rintro e' w1 ⟨rfl, hb1⟩; have HA1 := hid (HA0.out.on hb1); have HB1 := hid (HB0.out.trans (hb1.mono HB0.out.size)); clear hb1)
    | (go_at_call 53; (with_reducible refine (F12.out _ HA1.out).mono ?_); rintro e' w2 ⟨rfl, hb2⟩; have HA2 := hid (HA1.out.on hb2); have HB2 := hid (HB1.out.trans (hb2.mono HB1.out.size)); clear hb2)
    | (go_at_call 53; (with_reducible refine (F0.out _ HA2.out).mono ?_); rintro e' w3 ⟨rfl, hb3⟩; have HA3 := hid (HA2.out.on hb3); have HB3 := hid (HB2.out.trans (hb3.mono HB2.out.size)); clear hb3)
    | (go_at_call 53; (with_reducible refine (F1.out _ HA3.out).mono ?_); rintro e' w4 ⟨rfl, hb4⟩; have HA4 := hid (HA3.out.on hb4); have HB4 := hid (HB3.out.trans (hb4.mono HB3.out.size)); clear hb4)
    | (go_at_call 53; (with_reducible refine (F2.out _ HA4.out).mono ?_); rintro e' w5 ⟨rfl, hb5⟩; have HA5 := hid (HA4.out.on hb5); have HB5 := hid (HB4.out.trans (hb5.mono HB4.out.size)); clear hb5)
    | (go_at_call 53; (with_reducible refine (FY.out _ HA5.out).mono ?_); rintro e' wy ⟨rfl, hby, hay⟩; have HAy := hid hay; have HBy := hid ((But2.fst (C := BR) (But.of HB5.out)).trans (But2.fst hby)); have HXy := hid ((HX.out.on HB5.out).but2 HA5.out hby); have HOy := hid (rown_but2 HO.out HH.out HX.out HBy.out); clear hby hay; have HJ := hid (show (rarr r y)[15]? = some (.slice none 0 0) by have := HY.out; simp only [fld, Prod.mk.injEq] at this; obtain ⟨e1, e2, e3⟩ := this; simp only [rarr, e1, e2, e3]; rfl))
    | (go_at_call 75; (with_reducible refine (rnums_any X (k + 1) BR 15 (rarr r y) 67 _ HAy.out HXy.out HJ.out (by decide)).mono ?_); intro e' wz hz; obtain ⟨ok, rfl, hz2⟩ := cl_nums (i := 3) (fun r v => { r with x := { r.x with cls := v } }) (fun y A n c => { y with ac := A, nc := n, cc := c }) (fun _ => rfl) (fun _ _ _ _ => rfl) (fun _ _ _ _ _ hr ho => ⟨hr.via, hr.nds, hr.lks, ho⟩) (Nat.le_trans hbw HBy.out.size) (fun _ _ _ j hj hji => by rcases (show j = 0 ∨ j = 1 ∨ j = 2 ∨ j = 3 by omega) with rfl | rfl | rfl | rfl <;> first | rfl | exact absurd rfl hji) HBy.out HAy.out HXy.out HOy.out hz; have HZ := hid hz2; clear hz hz2))
  go_ret
  exact ⟨ok, rfl, HZ.out⟩
theorem rclause_4 (X : Rdr) (b BR k : Nat) (r : Rul) (y : WSl) (w : World) (h : At X k w) (hx : Box X BR (rarr r y) 67 w) (ho : RoB b w r.x y) (hw : textAt X.l k = wordL 4) :
    Calls Tryd.prog 57 #[.pointer (some ⟨X.BP, 0, none⟩), .pointer (some ⟨BR, 0, none⟩)] w fun e w' => ∃ ok, e = .returned (.bool ok) ∧ ClR X b BR k 4 r y w ok w' := by
  have F11 : Hid (∀ wx : World, At X k wx → Calls Tryd.prog 53 #[.pointer (some ⟨X.BP, 0, none⟩), .string ⟨#[102, 114, 111, 109]⟩] wx fun e w' => e = .returned (.bool false) ∧ Below wx.heap.size wx w') := fun wx hh => takes_no (W := wordL 11) hw (show wordL 4 ≠ wordL 11 by decide) (by decide) wx hh
  have F12 : Hid (∀ wx : World, At X k wx → Calls Tryd.prog 53 #[.pointer (some ⟨X.BP, 0, none⟩), .string ⟨#[116, 111]⟩] wx fun e w' => e = .returned (.bool false) ∧ Below wx.heap.size wx w') := fun wx hh => takes_no (W := wordL 12) hw (show wordL 4 ≠ wordL 12 by decide) (by decide) wx hh
  have F0 : Hid (∀ wx : World, At X k wx → Calls Tryd.prog 53 #[.pointer (some ⟨X.BP, 0, none⟩), .string ⟨#[118, 105, 97]⟩] wx fun e w' => e = .returned (.bool false) ∧ Below wx.heap.size wx w') := fun wx hh => takes_no (W := wordL 0) hw (show wordL 4 ≠ wordL 0 by decide) (by decide) wx hh
  have F1 : Hid (∀ wx : World, At X k wx → Calls Tryd.prog 53 #[.pointer (some ⟨X.BP, 0, none⟩), .string ⟨#[97, 118, 111, 105, 100, 45, 110, 111, 100, 101, 115]⟩] wx fun e w' => e = .returned (.bool false) ∧ Below wx.heap.size wx w') := fun wx hh => takes_no (W := wordL 1) hw (show wordL 4 ≠ wordL 1 by decide) (by decide) wx hh
  have F2 : Hid (∀ wx : World, At X k wx → Calls Tryd.prog 53 #[.pointer (some ⟨X.BP, 0, none⟩), .string ⟨#[97, 118, 111, 105, 100, 45, 108, 105, 110, 107, 115]⟩] wx fun e w' => e = .returned (.bool false) ∧ Below wx.heap.size wx w') := fun wx hh => takes_no (W := wordL 2) hw (show wordL 4 ≠ wordL 2 by decide) (by decide) wx hh
  have F3 : Hid (∀ wx : World, At X k wx → Calls Tryd.prog 53 #[.pointer (some ⟨X.BP, 0, none⟩), .string ⟨#[97, 118, 111, 105, 100, 45, 99, 111, 108, 111, 117, 114, 115]⟩] wx fun e w' => e = .returned (.bool false) ∧ Below wx.heap.size wx w') := fun wx hh => takes_no (W := wordL 3) hw (show wordL 4 ≠ wordL 3 by decide) (by decide) wx hh
  have FY : Hid (∀ wx : World, At X k wx → Calls Tryd.prog 53 #[.pointer (some ⟨X.BP, 0, none⟩), .string ⟨#[99, 111, 115, 116]⟩] wx fun e w' => e = .returned (.bool true) ∧ But X.BP wx w' ∧ At X (k + 1) w') := fun wx hh => takes_yes (W := wordL 4) hw (by decide) wx hh
  have HX := hid hx
  have HO := hid ho
  have HH := hid h
  clear h hw hx ho
  go_enter Tryd.func57, Tryd.ntmps57
  go_wp2_with fail
  go_big_quiet (fail)
  obtain ⟨wd, hwd⟩ : ∃ wd, (w.drewN nq) = wd := ⟨_, rfl⟩
  have HB0 := hid (show Below w.heap.size w wd from hwd ▸ below_drewN (Below.refl _ _))
  have HA0 := hid (HH.out.on HB0.out)
  rw [hwd]
  clear hwd
  go_wp2_with (first
    | (go_at_call 53; (with_reducible refine (F11.out _ HA0.out).mono ?_); rintro e' w1 ⟨rfl, hb1⟩; have HA1 := hid (HA0.out.on hb1); have HB1 := hid (HB0.out.trans (hb1.mono HB0.out.size)); clear hb1)
    | (go_at_call 53; (with_reducible refine (F12.out _ HA1.out).mono ?_); rintro e' w2 ⟨rfl, hb2⟩; have HA2 := hid (HA1.out.on hb2); have HB2 := hid (HB1.out.trans (hb2.mono HB1.out.size)); clear hb2)
    | (go_at_call 53; (with_reducible refine (F0.out _ HA2.out).mono ?_); rintro e' w3 ⟨rfl, hb3⟩; have HA3 := hid (HA2.out.on hb3); have HB3 := hid (HB2.out.trans (hb3.mono HB2.out.size)); clear hb3)
    | (go_at_call 53; (with_reducible refine (F1.out _ HA3.out).mono ?_); rintro e' w4 ⟨rfl, hb4⟩; have HA4 := hid (HA3.out.on hb4); have HB4 := hid (HB3.out.trans (hb4.mono HB3.out.size)); clear hb4)
    | (go_at_call 53; (with_reducible refine (F2.out _ HA4.out).mono ?_); rintro e' w5 ⟨rfl, hb5⟩; have HA5 := hid (HA4.out.on hb5); have HB5 := hid (HB4.out.trans (hb5.mono HB4.out.size)); clear hb5)
    | (go_at_call 53; (with_reducible refine (F3.out _ HA5.out).mono ?_); rintro e' w6 ⟨rfl, hb6⟩; have HA6 := hid (HA5.out.on hb6); have HB6 := hid (HB5.out.trans (hb6.mono HB5.out.size)); clear hb6)
    | (go_at_call 53; (with_reducible refine (FY.out _ HA6.out).mono ?_); rintro e' wy ⟨rfl, hby, hay⟩; have HAy := hid hay; have HBy := hid ((But2.fst (C := BR) (But.of HB6.out)).trans (But2.fst hby)); have HXy := hid ((HX.out.on HB6.out).but2 HA6.out hby); have HOy := hid (rown_but2 HO.out HH.out HX.out HBy.out); clear hby hay)
    | (go_at_call 55; (with_reducible refine (rnum_any X (k + 1) BR 11 (rarr r y) 67 _ HAy.out HXy.out rfl).mono ?_); intro e' wz hz; obtain ⟨ok, rfl, hz2⟩ := cl_num (i := 4) (fun r v => { r with x := { r.x with bnd := (v : Int) } }) (fun _ => rfl) (fun _ => rfl) (fun _ => ⟨rfl, rfl, rfl, rfl⟩) HBy.out HAy.out HXy.out HOy.out hz; have HZ := hid hz2; clear hz hz2))
  go_ret
  exact ⟨ok, rfl, HZ.out⟩
theorem rclause_5 (X : Rdr) (b BR k : Nat) (r : Rul) (y : WSl) (w : World) (h : At X k w) (hx : Box X BR (rarr r y) 67 w) (ho : RoB b w r.x y) (hw : textAt X.l k = wordL 5) :
    Calls Tryd.prog 57 #[.pointer (some ⟨X.BP, 0, none⟩), .pointer (some ⟨BR, 0, none⟩)] w fun e w' => ∃ ok, e = .returned (.bool ok) ∧ ClR X b BR k 5 r y w ok w' := by
  have F11 : Hid (∀ wx : World, At X k wx → Calls Tryd.prog 53 #[.pointer (some ⟨X.BP, 0, none⟩), .string ⟨#[102, 114, 111, 109]⟩] wx fun e w' => e = .returned (.bool false) ∧ Below wx.heap.size wx w') := fun wx hh => takes_no (W := wordL 11) hw (show wordL 5 ≠ wordL 11 by decide) (by decide) wx hh
  have F12 : Hid (∀ wx : World, At X k wx → Calls Tryd.prog 53 #[.pointer (some ⟨X.BP, 0, none⟩), .string ⟨#[116, 111]⟩] wx fun e w' => e = .returned (.bool false) ∧ Below wx.heap.size wx w') := fun wx hh => takes_no (W := wordL 12) hw (show wordL 5 ≠ wordL 12 by decide) (by decide) wx hh
  have F0 : Hid (∀ wx : World, At X k wx → Calls Tryd.prog 53 #[.pointer (some ⟨X.BP, 0, none⟩), .string ⟨#[118, 105, 97]⟩] wx fun e w' => e = .returned (.bool false) ∧ Below wx.heap.size wx w') := fun wx hh => takes_no (W := wordL 0) hw (show wordL 5 ≠ wordL 0 by decide) (by decide) wx hh
  have F1 : Hid (∀ wx : World, At X k wx → Calls Tryd.prog 53 #[.pointer (some ⟨X.BP, 0, none⟩), .string ⟨#[97, 118, 111, 105, 100, 45, 110, 111, 100, 101, 115]⟩] wx fun e w' => e = .returned (.bool false) ∧ Below wx.heap.size wx w') := fun wx hh => takes_no (W := wordL 1) hw (show wordL 5 ≠ wordL 1 by decide) (by decide) wx hh
  have F2 : Hid (∀ wx : World, At X k wx → Calls Tryd.prog 53 #[.pointer (some ⟨X.BP, 0, none⟩), .string ⟨#[97, 118, 111, 105, 100, 45, 108, 105, 110, 107, 115]⟩] wx fun e w' => e = .returned (.bool false) ∧ Below wx.heap.size wx w') := fun wx hh => takes_no (W := wordL 2) hw (show wordL 5 ≠ wordL 2 by decide) (by decide) wx hh
  have F3 : Hid (∀ wx : World, At X k wx → Calls Tryd.prog 53 #[.pointer (some ⟨X.BP, 0, none⟩), .string ⟨#[97, 118, 111, 105, 100, 45, 99, 111, 108, 111, 117, 114, 115]⟩] wx fun e w' => e = .returned (.bool false) ∧ Below wx.heap.size wx w') := fun wx hh => takes_no (W := wordL 3) hw (show wordL 5 ≠ wordL 3 by decide) (by decide) wx hh
  have F4 : Hid (∀ wx : World, At X k wx → Calls Tryd.prog 53 #[.pointer (some ⟨X.BP, 0, none⟩), .string ⟨#[99, 111, 115, 116]⟩] wx fun e w' => e = .returned (.bool false) ∧ Below wx.heap.size wx w') := fun wx hh => takes_no (W := wordL 4) hw (show wordL 5 ≠ wordL 4 by decide) (by decide) wx hh
  have FY : Hid (∀ wx : World, At X k wx → Calls Tryd.prog 53 #[.pointer (some ⟨X.BP, 0, none⟩), .string ⟨#[115, 114, 99]⟩] wx fun e w' => e = .returned (.bool true) ∧ But X.BP wx w' ∧ At X (k + 1) w') := fun wx hh => takes_yes (W := wordL 5) hw (by decide) wx hh
  have HX := hid hx
  have HO := hid ho
  have HH := hid h
  clear h hw hx ho
  go_enter Tryd.func57, Tryd.ntmps57
  go_wp2_with fail
  go_big_quiet (fail)
  obtain ⟨wd, hwd⟩ : ∃ wd, (w.drewN nq) = wd := ⟨_, rfl⟩
  have HB0 := hid (show Below w.heap.size w wd from hwd ▸ below_drewN (Below.refl _ _))
  have HA0 := hid (HH.out.on HB0.out)
  rw [hwd]
  clear hwd
  go_wp2_with (first
    | (go_at_call 53; (with_reducible refine (F11.out _ HA0.out).mono ?_); rintro e' w1 ⟨rfl, hb1⟩; have HA1 := hid (HA0.out.on hb1); have HB1 := hid (HB0.out.trans (hb1.mono HB0.out.size)); clear hb1)
    | (go_at_call 53; (with_reducible refine (F12.out _ HA1.out).mono ?_); rintro e' w2 ⟨rfl, hb2⟩; have HA2 := hid (HA1.out.on hb2); have HB2 := hid (HB1.out.trans (hb2.mono HB1.out.size)); clear hb2)
    | (go_at_call 53; (with_reducible refine (F0.out _ HA2.out).mono ?_); rintro e' w3 ⟨rfl, hb3⟩; have HA3 := hid (HA2.out.on hb3); have HB3 := hid (HB2.out.trans (hb3.mono HB2.out.size)); clear hb3)
    | (go_at_call 53; (with_reducible refine (F1.out _ HA3.out).mono ?_); rintro e' w4 ⟨rfl, hb4⟩; have HA4 := hid (HA3.out.on hb4); have HB4 := hid (HB3.out.trans (hb4.mono HB3.out.size)); clear hb4)
    | (go_at_call 53; (with_reducible refine (F2.out _ HA4.out).mono ?_); rintro e' w5 ⟨rfl, hb5⟩; have HA5 := hid (HA4.out.on hb5); have HB5 := hid (HB4.out.trans (hb5.mono HB4.out.size)); clear hb5)
    | (go_at_call 53; (with_reducible refine (F3.out _ HA5.out).mono ?_); rintro e' w6 ⟨rfl, hb6⟩; have HA6 := hid (HA5.out.on hb6); have HB6 := hid (HB5.out.trans (hb6.mono HB5.out.size)); clear hb6)
    | (go_at_call 53; (with_reducible refine (F4.out _ HA6.out).mono ?_); rintro e' w7 ⟨rfl, hb7⟩; have HA7 := hid (HA6.out.on hb7); have HB7 := hid (HB6.out.trans (hb7.mono HB6.out.size)); clear hb7)
    | (go_at_call 53; (with_reducible refine (FY.out _ HA7.out).mono ?_); rintro e' wy ⟨rfl, hby, hay⟩; have HAy := hid hay; have HBy := hid ((But2.fst (C := BR) (But.of HB7.out)).trans (But2.fst hby)); have HXy := hid ((HX.out.on HB7.out).but2 HA7.out hby); have HOy := hid (rown_but2 HO.out HH.out HX.out HBy.out); clear hby hay)
    | (go_at_call 76; (with_reducible refine (rpref_any X (k + 1) BR 2 (rarr r y) 67 _ HAy.out HXy.out rfl rfl).mono ?_); intro e' wz hz; obtain ⟨ok, rfl, hz2⟩ := cl_pref (i := 5) (fun r a n => { r with m := { r.m with sa := a, sl := (n : Int) } }) (fun _ => rfl) (fun _ _ => rfl) (fun _ _ => rfl) HBy.out HAy.out HXy.out HOy.out hz; have HZ := hid hz2; clear hz hz2))
  go_ret
  exact ⟨ok, rfl, HZ.out⟩
theorem rclause_6 (X : Rdr) (b BR k : Nat) (r : Rul) (y : WSl) (w : World) (h : At X k w) (hx : Box X BR (rarr r y) 67 w) (ho : RoB b w r.x y) (hw : textAt X.l k = wordL 6) :
    Calls Tryd.prog 57 #[.pointer (some ⟨X.BP, 0, none⟩), .pointer (some ⟨BR, 0, none⟩)] w fun e w' => ∃ ok, e = .returned (.bool ok) ∧ ClR X b BR k 6 r y w ok w' := by
  have F11 : Hid (∀ wx : World, At X k wx → Calls Tryd.prog 53 #[.pointer (some ⟨X.BP, 0, none⟩), .string ⟨#[102, 114, 111, 109]⟩] wx fun e w' => e = .returned (.bool false) ∧ Below wx.heap.size wx w') := fun wx hh => takes_no (W := wordL 11) hw (show wordL 6 ≠ wordL 11 by decide) (by decide) wx hh
  have F12 : Hid (∀ wx : World, At X k wx → Calls Tryd.prog 53 #[.pointer (some ⟨X.BP, 0, none⟩), .string ⟨#[116, 111]⟩] wx fun e w' => e = .returned (.bool false) ∧ Below wx.heap.size wx w') := fun wx hh => takes_no (W := wordL 12) hw (show wordL 6 ≠ wordL 12 by decide) (by decide) wx hh
  have F0 : Hid (∀ wx : World, At X k wx → Calls Tryd.prog 53 #[.pointer (some ⟨X.BP, 0, none⟩), .string ⟨#[118, 105, 97]⟩] wx fun e w' => e = .returned (.bool false) ∧ Below wx.heap.size wx w') := fun wx hh => takes_no (W := wordL 0) hw (show wordL 6 ≠ wordL 0 by decide) (by decide) wx hh
  have F1 : Hid (∀ wx : World, At X k wx → Calls Tryd.prog 53 #[.pointer (some ⟨X.BP, 0, none⟩), .string ⟨#[97, 118, 111, 105, 100, 45, 110, 111, 100, 101, 115]⟩] wx fun e w' => e = .returned (.bool false) ∧ Below wx.heap.size wx w') := fun wx hh => takes_no (W := wordL 1) hw (show wordL 6 ≠ wordL 1 by decide) (by decide) wx hh
  have F2 : Hid (∀ wx : World, At X k wx → Calls Tryd.prog 53 #[.pointer (some ⟨X.BP, 0, none⟩), .string ⟨#[97, 118, 111, 105, 100, 45, 108, 105, 110, 107, 115]⟩] wx fun e w' => e = .returned (.bool false) ∧ Below wx.heap.size wx w') := fun wx hh => takes_no (W := wordL 2) hw (show wordL 6 ≠ wordL 2 by decide) (by decide) wx hh
  have F3 : Hid (∀ wx : World, At X k wx → Calls Tryd.prog 53 #[.pointer (some ⟨X.BP, 0, none⟩), .string ⟨#[97, 118, 111, 105, 100, 45, 99, 111, 108, 111, 117, 114, 115]⟩] wx fun e w' => e = .returned (.bool false) ∧ Below wx.heap.size wx w') := fun wx hh => takes_no (W := wordL 3) hw (show wordL 6 ≠ wordL 3 by decide) (by decide) wx hh
  have F4 : Hid (∀ wx : World, At X k wx → Calls Tryd.prog 53 #[.pointer (some ⟨X.BP, 0, none⟩), .string ⟨#[99, 111, 115, 116]⟩] wx fun e w' => e = .returned (.bool false) ∧ Below wx.heap.size wx w') := fun wx hh => takes_no (W := wordL 4) hw (show wordL 6 ≠ wordL 4 by decide) (by decide) wx hh
  have F5 : Hid (∀ wx : World, At X k wx → Calls Tryd.prog 53 #[.pointer (some ⟨X.BP, 0, none⟩), .string ⟨#[115, 114, 99]⟩] wx fun e w' => e = .returned (.bool false) ∧ Below wx.heap.size wx w') := fun wx hh => takes_no (W := wordL 5) hw (show wordL 6 ≠ wordL 5 by decide) (by decide) wx hh
  have FY : Hid (∀ wx : World, At X k wx → Calls Tryd.prog 53 #[.pointer (some ⟨X.BP, 0, none⟩), .string ⟨#[100, 115, 116]⟩] wx fun e w' => e = .returned (.bool true) ∧ But X.BP wx w' ∧ At X (k + 1) w') := fun wx hh => takes_yes (W := wordL 6) hw (by decide) wx hh
  have HX := hid hx
  have HO := hid ho
  have HH := hid h
  clear h hw hx ho
  go_enter Tryd.func57, Tryd.ntmps57
  go_wp2_with fail
  go_big_quiet (fail)
  obtain ⟨wd, hwd⟩ : ∃ wd, (w.drewN nq) = wd := ⟨_, rfl⟩
  have HB0 := hid (show Below w.heap.size w wd from hwd ▸ below_drewN (Below.refl _ _))
  have HA0 := hid (HH.out.on HB0.out)
  rw [hwd]
  clear hwd
  go_wp2_with (first
    | (go_at_call 53; (with_reducible refine (F11.out _ HA0.out).mono ?_); rintro e' w1 ⟨rfl, hb1⟩; have HA1 := hid (HA0.out.on hb1); have HB1 := hid (HB0.out.trans (hb1.mono HB0.out.size)); clear hb1)
    | (go_at_call 53; (with_reducible refine (F12.out _ HA1.out).mono ?_); rintro e' w2 ⟨rfl, hb2⟩; have HA2 := hid (HA1.out.on hb2); have HB2 := hid (HB1.out.trans (hb2.mono HB1.out.size)); clear hb2)
    | (go_at_call 53; (with_reducible refine (F0.out _ HA2.out).mono ?_); rintro e' w3 ⟨rfl, hb3⟩; have HA3 := hid (HA2.out.on hb3); have HB3 := hid (HB2.out.trans (hb3.mono HB2.out.size)); clear hb3)
    | (go_at_call 53; (with_reducible refine (F1.out _ HA3.out).mono ?_); rintro e' w4 ⟨rfl, hb4⟩; have HA4 := hid (HA3.out.on hb4); have HB4 := hid (HB3.out.trans (hb4.mono HB3.out.size)); clear hb4)
    | (go_at_call 53; (with_reducible refine (F2.out _ HA4.out).mono ?_); rintro e' w5 ⟨rfl, hb5⟩; have HA5 := hid (HA4.out.on hb5); have HB5 := hid (HB4.out.trans (hb5.mono HB4.out.size)); clear hb5)
    | (go_at_call 53; (with_reducible refine (F3.out _ HA5.out).mono ?_); rintro e' w6 ⟨rfl, hb6⟩; have HA6 := hid (HA5.out.on hb6); have HB6 := hid (HB5.out.trans (hb6.mono HB5.out.size)); clear hb6)
    | (go_at_call 53; (with_reducible refine (F4.out _ HA6.out).mono ?_); rintro e' w7 ⟨rfl, hb7⟩; have HA7 := hid (HA6.out.on hb7); have HB7 := hid (HB6.out.trans (hb7.mono HB6.out.size)); clear hb7)
    | (go_at_call 53; (with_reducible refine (F5.out _ HA7.out).mono ?_); rintro e' w8 ⟨rfl, hb8⟩; have HA8 := hid (HA7.out.on hb8); have HB8 := hid (HB7.out.trans (hb8.mono HB7.out.size)); clear hb8)
    | (go_at_call 53; (with_reducible refine (FY.out _ HA8.out).mono ?_); rintro e' wy ⟨rfl, hby, hay⟩; have HAy := hid hay; have HBy := hid ((But2.fst (C := BR) (But.of HB8.out)).trans (But2.fst hby)); have HXy := hid ((HX.out.on HB8.out).but2 HA8.out hby); have HOy := hid (rown_but2 HO.out HH.out HX.out HBy.out); clear hby hay)
    | (go_at_call 76; (with_reducible refine (rpref_any X (k + 1) BR 4 (rarr r y) 67 _ HAy.out HXy.out rfl rfl).mono ?_); intro e' wz hz; obtain ⟨ok, rfl, hz2⟩ := cl_pref (i := 6) (fun r a n => { r with m := { r.m with da := a, dl := (n : Int) } }) (fun _ => rfl) (fun _ _ => rfl) (fun _ _ => rfl) HBy.out HAy.out HXy.out HOy.out hz; have HZ := hid hz2; clear hz hz2))
  go_ret
  exact ⟨ok, rfl, HZ.out⟩
theorem rclause_7 (X : Rdr) (b BR k : Nat) (r : Rul) (y : WSl) (w : World) (h : At X k w) (hx : Box X BR (rarr r y) 67 w) (ho : RoB b w r.x y) (hw : textAt X.l k = wordL 7) :
    Calls Tryd.prog 57 #[.pointer (some ⟨X.BP, 0, none⟩), .pointer (some ⟨BR, 0, none⟩)] w fun e w' => ∃ ok, e = .returned (.bool ok) ∧ ClR X b BR k 7 r y w ok w' := by
  have F11 : Hid (∀ wx : World, At X k wx → Calls Tryd.prog 53 #[.pointer (some ⟨X.BP, 0, none⟩), .string ⟨#[102, 114, 111, 109]⟩] wx fun e w' => e = .returned (.bool false) ∧ Below wx.heap.size wx w') := fun wx hh => takes_no (W := wordL 11) hw (show wordL 7 ≠ wordL 11 by decide) (by decide) wx hh
  have F12 : Hid (∀ wx : World, At X k wx → Calls Tryd.prog 53 #[.pointer (some ⟨X.BP, 0, none⟩), .string ⟨#[116, 111]⟩] wx fun e w' => e = .returned (.bool false) ∧ Below wx.heap.size wx w') := fun wx hh => takes_no (W := wordL 12) hw (show wordL 7 ≠ wordL 12 by decide) (by decide) wx hh
  have F0 : Hid (∀ wx : World, At X k wx → Calls Tryd.prog 53 #[.pointer (some ⟨X.BP, 0, none⟩), .string ⟨#[118, 105, 97]⟩] wx fun e w' => e = .returned (.bool false) ∧ Below wx.heap.size wx w') := fun wx hh => takes_no (W := wordL 0) hw (show wordL 7 ≠ wordL 0 by decide) (by decide) wx hh
  have F1 : Hid (∀ wx : World, At X k wx → Calls Tryd.prog 53 #[.pointer (some ⟨X.BP, 0, none⟩), .string ⟨#[97, 118, 111, 105, 100, 45, 110, 111, 100, 101, 115]⟩] wx fun e w' => e = .returned (.bool false) ∧ Below wx.heap.size wx w') := fun wx hh => takes_no (W := wordL 1) hw (show wordL 7 ≠ wordL 1 by decide) (by decide) wx hh
  have F2 : Hid (∀ wx : World, At X k wx → Calls Tryd.prog 53 #[.pointer (some ⟨X.BP, 0, none⟩), .string ⟨#[97, 118, 111, 105, 100, 45, 108, 105, 110, 107, 115]⟩] wx fun e w' => e = .returned (.bool false) ∧ Below wx.heap.size wx w') := fun wx hh => takes_no (W := wordL 2) hw (show wordL 7 ≠ wordL 2 by decide) (by decide) wx hh
  have F3 : Hid (∀ wx : World, At X k wx → Calls Tryd.prog 53 #[.pointer (some ⟨X.BP, 0, none⟩), .string ⟨#[97, 118, 111, 105, 100, 45, 99, 111, 108, 111, 117, 114, 115]⟩] wx fun e w' => e = .returned (.bool false) ∧ Below wx.heap.size wx w') := fun wx hh => takes_no (W := wordL 3) hw (show wordL 7 ≠ wordL 3 by decide) (by decide) wx hh
  have F4 : Hid (∀ wx : World, At X k wx → Calls Tryd.prog 53 #[.pointer (some ⟨X.BP, 0, none⟩), .string ⟨#[99, 111, 115, 116]⟩] wx fun e w' => e = .returned (.bool false) ∧ Below wx.heap.size wx w') := fun wx hh => takes_no (W := wordL 4) hw (show wordL 7 ≠ wordL 4 by decide) (by decide) wx hh
  have F5 : Hid (∀ wx : World, At X k wx → Calls Tryd.prog 53 #[.pointer (some ⟨X.BP, 0, none⟩), .string ⟨#[115, 114, 99]⟩] wx fun e w' => e = .returned (.bool false) ∧ Below wx.heap.size wx w') := fun wx hh => takes_no (W := wordL 5) hw (show wordL 7 ≠ wordL 5 by decide) (by decide) wx hh
  have F6 : Hid (∀ wx : World, At X k wx → Calls Tryd.prog 53 #[.pointer (some ⟨X.BP, 0, none⟩), .string ⟨#[100, 115, 116]⟩] wx fun e w' => e = .returned (.bool false) ∧ Below wx.heap.size wx w') := fun wx hh => takes_no (W := wordL 6) hw (show wordL 7 ≠ wordL 6 by decide) (by decide) wx hh
  have FY : Hid (∀ wx : World, At X k wx → Calls Tryd.prog 53 #[.pointer (some ⟨X.BP, 0, none⟩), .string ⟨#[112, 114, 111, 116, 111]⟩] wx fun e w' => e = .returned (.bool true) ∧ But X.BP wx w' ∧ At X (k + 1) w') := fun wx hh => takes_yes (W := wordL 7) hw (by decide) wx hh
  have HX := hid hx
  have HO := hid ho
  have HH := hid h
  clear h hw hx ho
  go_enter Tryd.func57, Tryd.ntmps57
  go_wp2_with fail
  go_big_quiet (fail)
  obtain ⟨wd, hwd⟩ : ∃ wd, (w.drewN nq) = wd := ⟨_, rfl⟩
  have HB0 := hid (show Below w.heap.size w wd from hwd ▸ below_drewN (Below.refl _ _))
  have HA0 := hid (HH.out.on HB0.out)
  rw [hwd]
  clear hwd
  go_wp2_with (first
    | (go_at_call 53; (with_reducible refine (F11.out _ HA0.out).mono ?_); rintro e' w1 ⟨rfl, hb1⟩; have HA1 := hid (HA0.out.on hb1); have HB1 := hid (HB0.out.trans (hb1.mono HB0.out.size)); clear hb1)
    | (go_at_call 53; (with_reducible refine (F12.out _ HA1.out).mono ?_); rintro e' w2 ⟨rfl, hb2⟩; have HA2 := hid (HA1.out.on hb2); have HB2 := hid (HB1.out.trans (hb2.mono HB1.out.size)); clear hb2)
    | (go_at_call 53; (with_reducible refine (F0.out _ HA2.out).mono ?_); rintro e' w3 ⟨rfl, hb3⟩; have HA3 := hid (HA2.out.on hb3); have HB3 := hid (HB2.out.trans (hb3.mono HB2.out.size)); clear hb3)
    | (go_at_call 53; (with_reducible refine (F1.out _ HA3.out).mono ?_); rintro e' w4 ⟨rfl, hb4⟩; have HA4 := hid (HA3.out.on hb4); have HB4 := hid (HB3.out.trans (hb4.mono HB3.out.size)); clear hb4)
    | (go_at_call 53; (with_reducible refine (F2.out _ HA4.out).mono ?_); rintro e' w5 ⟨rfl, hb5⟩; have HA5 := hid (HA4.out.on hb5); have HB5 := hid (HB4.out.trans (hb5.mono HB4.out.size)); clear hb5)
    | (go_at_call 53; (with_reducible refine (F3.out _ HA5.out).mono ?_); rintro e' w6 ⟨rfl, hb6⟩; have HA6 := hid (HA5.out.on hb6); have HB6 := hid (HB5.out.trans (hb6.mono HB5.out.size)); clear hb6)
    | (go_at_call 53; (with_reducible refine (F4.out _ HA6.out).mono ?_); rintro e' w7 ⟨rfl, hb7⟩; have HA7 := hid (HA6.out.on hb7); have HB7 := hid (HB6.out.trans (hb7.mono HB6.out.size)); clear hb7)
    | (go_at_call 53; (with_reducible refine (F5.out _ HA7.out).mono ?_); rintro e' w8 ⟨rfl, hb8⟩; have HA8 := hid (HA7.out.on hb8); have HB8 := hid (HB7.out.trans (hb8.mono HB7.out.size)); clear hb8)
    | (go_at_call 53; (with_reducible refine (F6.out _ HA8.out).mono ?_); rintro e' w9 ⟨rfl, hb9⟩; have HA9 := hid (HA8.out.on hb9); have HB9 := hid (HB8.out.trans (hb9.mono HB8.out.size)); clear hb9)
    | (go_at_call 53; (with_reducible refine (FY.out _ HA9.out).mono ?_); rintro e' wy ⟨rfl, hby, hay⟩; have HAy := hid hay; have HBy := hid ((But2.fst (C := BR) (But.of HB9.out)).trans (But2.fst hby)); have HXy := hid ((HX.out.on HB9.out).but2 HA9.out hby); have HOy := hid (rown_but2 HO.out HH.out HX.out HBy.out); clear hby hay)
    | (go_at_call 55; (with_reducible refine (rnum_any X (k + 1) BR 6 (rarr r y) 67 _ HAy.out HXy.out rfl).mono ?_); intro e' wz hz; obtain ⟨ok, rfl, hz2⟩ := cl_num (i := 7) (fun r v => { r with m := { r.m with pr := (v : Int) } }) (fun _ => rfl) (fun _ => rfl) (fun _ => ⟨rfl, rfl, rfl, rfl⟩) HBy.out HAy.out HXy.out HOy.out hz; have HZ := hid hz2; clear hz hz2))
  go_ret
  exact ⟨ok, rfl, HZ.out⟩
theorem rclause_8 (X : Rdr) (b BR k : Nat) (r : Rul) (y : WSl) (w : World) (h : At X k w) (hx : Box X BR (rarr r y) 67 w) (ho : RoB b w r.x y) (hw : textAt X.l k = wordL 8) :
    Calls Tryd.prog 57 #[.pointer (some ⟨X.BP, 0, none⟩), .pointer (some ⟨BR, 0, none⟩)] w fun e w' => ∃ ok, e = .returned (.bool ok) ∧ ClR X b BR k 8 r y w ok w' := by
  have F11 : Hid (∀ wx : World, At X k wx → Calls Tryd.prog 53 #[.pointer (some ⟨X.BP, 0, none⟩), .string ⟨#[102, 114, 111, 109]⟩] wx fun e w' => e = .returned (.bool false) ∧ Below wx.heap.size wx w') := fun wx hh => takes_no (W := wordL 11) hw (show wordL 8 ≠ wordL 11 by decide) (by decide) wx hh
  have F12 : Hid (∀ wx : World, At X k wx → Calls Tryd.prog 53 #[.pointer (some ⟨X.BP, 0, none⟩), .string ⟨#[116, 111]⟩] wx fun e w' => e = .returned (.bool false) ∧ Below wx.heap.size wx w') := fun wx hh => takes_no (W := wordL 12) hw (show wordL 8 ≠ wordL 12 by decide) (by decide) wx hh
  have F0 : Hid (∀ wx : World, At X k wx → Calls Tryd.prog 53 #[.pointer (some ⟨X.BP, 0, none⟩), .string ⟨#[118, 105, 97]⟩] wx fun e w' => e = .returned (.bool false) ∧ Below wx.heap.size wx w') := fun wx hh => takes_no (W := wordL 0) hw (show wordL 8 ≠ wordL 0 by decide) (by decide) wx hh
  have F1 : Hid (∀ wx : World, At X k wx → Calls Tryd.prog 53 #[.pointer (some ⟨X.BP, 0, none⟩), .string ⟨#[97, 118, 111, 105, 100, 45, 110, 111, 100, 101, 115]⟩] wx fun e w' => e = .returned (.bool false) ∧ Below wx.heap.size wx w') := fun wx hh => takes_no (W := wordL 1) hw (show wordL 8 ≠ wordL 1 by decide) (by decide) wx hh
  have F2 : Hid (∀ wx : World, At X k wx → Calls Tryd.prog 53 #[.pointer (some ⟨X.BP, 0, none⟩), .string ⟨#[97, 118, 111, 105, 100, 45, 108, 105, 110, 107, 115]⟩] wx fun e w' => e = .returned (.bool false) ∧ Below wx.heap.size wx w') := fun wx hh => takes_no (W := wordL 2) hw (show wordL 8 ≠ wordL 2 by decide) (by decide) wx hh
  have F3 : Hid (∀ wx : World, At X k wx → Calls Tryd.prog 53 #[.pointer (some ⟨X.BP, 0, none⟩), .string ⟨#[97, 118, 111, 105, 100, 45, 99, 111, 108, 111, 117, 114, 115]⟩] wx fun e w' => e = .returned (.bool false) ∧ Below wx.heap.size wx w') := fun wx hh => takes_no (W := wordL 3) hw (show wordL 8 ≠ wordL 3 by decide) (by decide) wx hh
  have F4 : Hid (∀ wx : World, At X k wx → Calls Tryd.prog 53 #[.pointer (some ⟨X.BP, 0, none⟩), .string ⟨#[99, 111, 115, 116]⟩] wx fun e w' => e = .returned (.bool false) ∧ Below wx.heap.size wx w') := fun wx hh => takes_no (W := wordL 4) hw (show wordL 8 ≠ wordL 4 by decide) (by decide) wx hh
  have F5 : Hid (∀ wx : World, At X k wx → Calls Tryd.prog 53 #[.pointer (some ⟨X.BP, 0, none⟩), .string ⟨#[115, 114, 99]⟩] wx fun e w' => e = .returned (.bool false) ∧ Below wx.heap.size wx w') := fun wx hh => takes_no (W := wordL 5) hw (show wordL 8 ≠ wordL 5 by decide) (by decide) wx hh
  have F6 : Hid (∀ wx : World, At X k wx → Calls Tryd.prog 53 #[.pointer (some ⟨X.BP, 0, none⟩), .string ⟨#[100, 115, 116]⟩] wx fun e w' => e = .returned (.bool false) ∧ Below wx.heap.size wx w') := fun wx hh => takes_no (W := wordL 6) hw (show wordL 8 ≠ wordL 6 by decide) (by decide) wx hh
  have F7 : Hid (∀ wx : World, At X k wx → Calls Tryd.prog 53 #[.pointer (some ⟨X.BP, 0, none⟩), .string ⟨#[112, 114, 111, 116, 111]⟩] wx fun e w' => e = .returned (.bool false) ∧ Below wx.heap.size wx w') := fun wx hh => takes_no (W := wordL 7) hw (show wordL 8 ≠ wordL 7 by decide) (by decide) wx hh
  have FY : Hid (∀ wx : World, At X k wx → Calls Tryd.prog 53 #[.pointer (some ⟨X.BP, 0, none⟩), .string ⟨#[115, 112, 111, 114, 116]⟩] wx fun e w' => e = .returned (.bool true) ∧ But X.BP wx w' ∧ At X (k + 1) w') := fun wx hh => takes_yes (W := wordL 8) hw (by decide) wx hh
  have HX := hid hx
  have HO := hid ho
  have HH := hid h
  clear h hw hx ho
  go_enter Tryd.func57, Tryd.ntmps57
  go_wp2_with fail
  go_big_quiet (fail)
  obtain ⟨wd, hwd⟩ : ∃ wd, (w.drewN nq) = wd := ⟨_, rfl⟩
  have HB0 := hid (show Below w.heap.size w wd from hwd ▸ below_drewN (Below.refl _ _))
  have HA0 := hid (HH.out.on HB0.out)
  rw [hwd]
  clear hwd
  go_wp2_with (first
    | (go_at_call 53; (with_reducible refine (F11.out _ HA0.out).mono ?_); rintro e' w1 ⟨rfl, hb1⟩; have HA1 := hid (HA0.out.on hb1); have HB1 := hid (HB0.out.trans (hb1.mono HB0.out.size)); clear hb1)
    | (go_at_call 53; (with_reducible refine (F12.out _ HA1.out).mono ?_); rintro e' w2 ⟨rfl, hb2⟩; have HA2 := hid (HA1.out.on hb2); have HB2 := hid (HB1.out.trans (hb2.mono HB1.out.size)); clear hb2)
    | (go_at_call 53; (with_reducible refine (F0.out _ HA2.out).mono ?_); rintro e' w3 ⟨rfl, hb3⟩; have HA3 := hid (HA2.out.on hb3); have HB3 := hid (HB2.out.trans (hb3.mono HB2.out.size)); clear hb3)
    | (go_at_call 53; (with_reducible refine (F1.out _ HA3.out).mono ?_); rintro e' w4 ⟨rfl, hb4⟩; have HA4 := hid (HA3.out.on hb4); have HB4 := hid (HB3.out.trans (hb4.mono HB3.out.size)); clear hb4)
    | (go_at_call 53; (with_reducible refine (F2.out _ HA4.out).mono ?_); rintro e' w5 ⟨rfl, hb5⟩; have HA5 := hid (HA4.out.on hb5); have HB5 := hid (HB4.out.trans (hb5.mono HB4.out.size)); clear hb5)
    | (go_at_call 53; (with_reducible refine (F3.out _ HA5.out).mono ?_); rintro e' w6 ⟨rfl, hb6⟩; have HA6 := hid (HA5.out.on hb6); have HB6 := hid (HB5.out.trans (hb6.mono HB5.out.size)); clear hb6)
    | (go_at_call 53; (with_reducible refine (F4.out _ HA6.out).mono ?_); rintro e' w7 ⟨rfl, hb7⟩; have HA7 := hid (HA6.out.on hb7); have HB7 := hid (HB6.out.trans (hb7.mono HB6.out.size)); clear hb7)
    | (go_at_call 53; (with_reducible refine (F5.out _ HA7.out).mono ?_); rintro e' w8 ⟨rfl, hb8⟩; have HA8 := hid (HA7.out.on hb8); have HB8 := hid (HB7.out.trans (hb8.mono HB7.out.size)); clear hb8)
    | (go_at_call 53; (with_reducible refine (F6.out _ HA8.out).mono ?_); rintro e' w9 ⟨rfl, hb9⟩; have HA9 := hid (HA8.out.on hb9); have HB9 := hid (HB8.out.trans (hb9.mono HB8.out.size)); clear hb9)
    | (go_at_call 53; (with_reducible refine (F7.out _ HA9.out).mono ?_); rintro e' w10 ⟨rfl, hb10⟩; have HA10 := hid (HA9.out.on hb10); have HB10 := hid (HB9.out.trans (hb10.mono HB9.out.size)); clear hb10)
    | (go_at_call 53; (with_reducible refine (FY.out _ HA10.out).mono ?_); rintro e' wy ⟨rfl, hby, hay⟩; have HAy := hid hay; have HBy := hid ((But2.fst (C := BR) (But.of HB10.out)).trans (But2.fst hby)); have HXy := hid ((HX.out.on HB10.out).but2 HA10.out hby); have HOy := hid (rown_but2 HO.out HH.out HX.out HBy.out); clear hby hay)
    | (go_at_call 55; (with_reducible refine (rnum_any X (k + 1) BR 7 (rarr r y) 67 _ HAy.out HXy.out rfl).mono ?_); intro e' wz hz; obtain ⟨ok, rfl, hz2⟩ := cl_num (i := 8) (fun r v => { r with m := { r.m with sp := (v : Int) } }) (fun _ => rfl) (fun _ => rfl) (fun _ => ⟨rfl, rfl, rfl, rfl⟩) HBy.out HAy.out HXy.out HOy.out hz; have HZ := hid hz2; clear hz hz2))
  go_ret
  exact ⟨ok, rfl, HZ.out⟩
theorem rclause_9 (X : Rdr) (b BR k : Nat) (r : Rul) (y : WSl) (w : World) (h : At X k w) (hx : Box X BR (rarr r y) 67 w) (ho : RoB b w r.x y) (hw : textAt X.l k = wordL 9) :
    Calls Tryd.prog 57 #[.pointer (some ⟨X.BP, 0, none⟩), .pointer (some ⟨BR, 0, none⟩)] w fun e w' => ∃ ok, e = .returned (.bool ok) ∧ ClR X b BR k 9 r y w ok w' := by
  have F11 : Hid (∀ wx : World, At X k wx → Calls Tryd.prog 53 #[.pointer (some ⟨X.BP, 0, none⟩), .string ⟨#[102, 114, 111, 109]⟩] wx fun e w' => e = .returned (.bool false) ∧ Below wx.heap.size wx w') := fun wx hh => takes_no (W := wordL 11) hw (show wordL 9 ≠ wordL 11 by decide) (by decide) wx hh
  have F12 : Hid (∀ wx : World, At X k wx → Calls Tryd.prog 53 #[.pointer (some ⟨X.BP, 0, none⟩), .string ⟨#[116, 111]⟩] wx fun e w' => e = .returned (.bool false) ∧ Below wx.heap.size wx w') := fun wx hh => takes_no (W := wordL 12) hw (show wordL 9 ≠ wordL 12 by decide) (by decide) wx hh
  have F0 : Hid (∀ wx : World, At X k wx → Calls Tryd.prog 53 #[.pointer (some ⟨X.BP, 0, none⟩), .string ⟨#[118, 105, 97]⟩] wx fun e w' => e = .returned (.bool false) ∧ Below wx.heap.size wx w') := fun wx hh => takes_no (W := wordL 0) hw (show wordL 9 ≠ wordL 0 by decide) (by decide) wx hh
  have F1 : Hid (∀ wx : World, At X k wx → Calls Tryd.prog 53 #[.pointer (some ⟨X.BP, 0, none⟩), .string ⟨#[97, 118, 111, 105, 100, 45, 110, 111, 100, 101, 115]⟩] wx fun e w' => e = .returned (.bool false) ∧ Below wx.heap.size wx w') := fun wx hh => takes_no (W := wordL 1) hw (show wordL 9 ≠ wordL 1 by decide) (by decide) wx hh
  have F2 : Hid (∀ wx : World, At X k wx → Calls Tryd.prog 53 #[.pointer (some ⟨X.BP, 0, none⟩), .string ⟨#[97, 118, 111, 105, 100, 45, 108, 105, 110, 107, 115]⟩] wx fun e w' => e = .returned (.bool false) ∧ Below wx.heap.size wx w') := fun wx hh => takes_no (W := wordL 2) hw (show wordL 9 ≠ wordL 2 by decide) (by decide) wx hh
  have F3 : Hid (∀ wx : World, At X k wx → Calls Tryd.prog 53 #[.pointer (some ⟨X.BP, 0, none⟩), .string ⟨#[97, 118, 111, 105, 100, 45, 99, 111, 108, 111, 117, 114, 115]⟩] wx fun e w' => e = .returned (.bool false) ∧ Below wx.heap.size wx w') := fun wx hh => takes_no (W := wordL 3) hw (show wordL 9 ≠ wordL 3 by decide) (by decide) wx hh
  have F4 : Hid (∀ wx : World, At X k wx → Calls Tryd.prog 53 #[.pointer (some ⟨X.BP, 0, none⟩), .string ⟨#[99, 111, 115, 116]⟩] wx fun e w' => e = .returned (.bool false) ∧ Below wx.heap.size wx w') := fun wx hh => takes_no (W := wordL 4) hw (show wordL 9 ≠ wordL 4 by decide) (by decide) wx hh
  have F5 : Hid (∀ wx : World, At X k wx → Calls Tryd.prog 53 #[.pointer (some ⟨X.BP, 0, none⟩), .string ⟨#[115, 114, 99]⟩] wx fun e w' => e = .returned (.bool false) ∧ Below wx.heap.size wx w') := fun wx hh => takes_no (W := wordL 5) hw (show wordL 9 ≠ wordL 5 by decide) (by decide) wx hh
  have F6 : Hid (∀ wx : World, At X k wx → Calls Tryd.prog 53 #[.pointer (some ⟨X.BP, 0, none⟩), .string ⟨#[100, 115, 116]⟩] wx fun e w' => e = .returned (.bool false) ∧ Below wx.heap.size wx w') := fun wx hh => takes_no (W := wordL 6) hw (show wordL 9 ≠ wordL 6 by decide) (by decide) wx hh
  have F7 : Hid (∀ wx : World, At X k wx → Calls Tryd.prog 53 #[.pointer (some ⟨X.BP, 0, none⟩), .string ⟨#[112, 114, 111, 116, 111]⟩] wx fun e w' => e = .returned (.bool false) ∧ Below wx.heap.size wx w') := fun wx hh => takes_no (W := wordL 7) hw (show wordL 9 ≠ wordL 7 by decide) (by decide) wx hh
  have F8 : Hid (∀ wx : World, At X k wx → Calls Tryd.prog 53 #[.pointer (some ⟨X.BP, 0, none⟩), .string ⟨#[115, 112, 111, 114, 116]⟩] wx fun e w' => e = .returned (.bool false) ∧ Below wx.heap.size wx w') := fun wx hh => takes_no (W := wordL 8) hw (show wordL 9 ≠ wordL 8 by decide) (by decide) wx hh
  have FY : Hid (∀ wx : World, At X k wx → Calls Tryd.prog 53 #[.pointer (some ⟨X.BP, 0, none⟩), .string ⟨#[100, 112, 111, 114, 116]⟩] wx fun e w' => e = .returned (.bool true) ∧ But X.BP wx w' ∧ At X (k + 1) w') := fun wx hh => takes_yes (W := wordL 9) hw (by decide) wx hh
  have HX := hid hx
  have HO := hid ho
  have HH := hid h
  clear h hw hx ho
  go_enter Tryd.func57, Tryd.ntmps57
  go_wp2_with fail
  go_big_quiet (fail)
  obtain ⟨wd, hwd⟩ : ∃ wd, (w.drewN nq) = wd := ⟨_, rfl⟩
  have HB0 := hid (show Below w.heap.size w wd from hwd ▸ below_drewN (Below.refl _ _))
  have HA0 := hid (HH.out.on HB0.out)
  rw [hwd]
  clear hwd
  go_wp2_with (first
    | (go_at_call 53; (with_reducible refine (F11.out _ HA0.out).mono ?_); rintro e' w1 ⟨rfl, hb1⟩; have HA1 := hid (HA0.out.on hb1); have HB1 := hid (HB0.out.trans (hb1.mono HB0.out.size)); clear hb1)
    | (go_at_call 53; (with_reducible refine (F12.out _ HA1.out).mono ?_); rintro e' w2 ⟨rfl, hb2⟩; have HA2 := hid (HA1.out.on hb2); have HB2 := hid (HB1.out.trans (hb2.mono HB1.out.size)); clear hb2)
    | (go_at_call 53; (with_reducible refine (F0.out _ HA2.out).mono ?_); rintro e' w3 ⟨rfl, hb3⟩; have HA3 := hid (HA2.out.on hb3); have HB3 := hid (HB2.out.trans (hb3.mono HB2.out.size)); clear hb3)
    | (go_at_call 53; (with_reducible refine (F1.out _ HA3.out).mono ?_); rintro e' w4 ⟨rfl, hb4⟩; have HA4 := hid (HA3.out.on hb4); have HB4 := hid (HB3.out.trans (hb4.mono HB3.out.size)); clear hb4)
    | (go_at_call 53; (with_reducible refine (F2.out _ HA4.out).mono ?_); rintro e' w5 ⟨rfl, hb5⟩; have HA5 := hid (HA4.out.on hb5); have HB5 := hid (HB4.out.trans (hb5.mono HB4.out.size)); clear hb5)
    | (go_at_call 53; (with_reducible refine (F3.out _ HA5.out).mono ?_); rintro e' w6 ⟨rfl, hb6⟩; have HA6 := hid (HA5.out.on hb6); have HB6 := hid (HB5.out.trans (hb6.mono HB5.out.size)); clear hb6)
    | (go_at_call 53; (with_reducible refine (F4.out _ HA6.out).mono ?_); rintro e' w7 ⟨rfl, hb7⟩; have HA7 := hid (HA6.out.on hb7); have HB7 := hid (HB6.out.trans (hb7.mono HB6.out.size)); clear hb7)
    | (go_at_call 53; (with_reducible refine (F5.out _ HA7.out).mono ?_); rintro e' w8 ⟨rfl, hb8⟩; have HA8 := hid (HA7.out.on hb8); have HB8 := hid (HB7.out.trans (hb8.mono HB7.out.size)); clear hb8)
    | (go_at_call 53; (with_reducible refine (F6.out _ HA8.out).mono ?_); rintro e' w9 ⟨rfl, hb9⟩; have HA9 := hid (HA8.out.on hb9); have HB9 := hid (HB8.out.trans (hb9.mono HB8.out.size)); clear hb9)
    | (go_at_call 53; (with_reducible refine (F7.out _ HA9.out).mono ?_); rintro e' w10 ⟨rfl, hb10⟩; have HA10 := hid (HA9.out.on hb10); have HB10 := hid (HB9.out.trans (hb10.mono HB9.out.size)); clear hb10)
    | (go_at_call 53; (with_reducible refine (F8.out _ HA10.out).mono ?_); rintro e' w11 ⟨rfl, hb11⟩; have HA11 := hid (HA10.out.on hb11); have HB11 := hid (HB10.out.trans (hb11.mono HB10.out.size)); clear hb11)
    | (go_at_call 53; (with_reducible refine (FY.out _ HA11.out).mono ?_); rintro e' wy ⟨rfl, hby, hay⟩; have HAy := hid hay; have HBy := hid ((But2.fst (C := BR) (But.of HB11.out)).trans (But2.fst hby)); have HXy := hid ((HX.out.on HB11.out).but2 HA11.out hby); have HOy := hid (rown_but2 HO.out HH.out HX.out HBy.out); clear hby hay)
    | (go_at_call 55; (with_reducible refine (rnum_any X (k + 1) BR 8 (rarr r y) 67 _ HAy.out HXy.out rfl).mono ?_); intro e' wz hz; obtain ⟨ok, rfl, hz2⟩ := cl_num (i := 9) (fun r v => { r with m := { r.m with dp := (v : Int) } }) (fun _ => rfl) (fun _ => rfl) (fun _ => ⟨rfl, rfl, rfl, rfl⟩) HBy.out HAy.out HXy.out HOy.out hz; have HZ := hid hz2; clear hz hz2))
  go_ret
  exact ⟨ok, rfl, HZ.out⟩
theorem rclause_10 (X : Rdr) (b BR k : Nat) (r : Rul) (y : WSl) (w : World) (h : At X k w) (hx : Box X BR (rarr r y) 67 w) (ho : RoB b w r.x y) (hw : textAt X.l k = wordL 10) :
    Calls Tryd.prog 57 #[.pointer (some ⟨X.BP, 0, none⟩), .pointer (some ⟨BR, 0, none⟩)] w fun e w' => ∃ ok, e = .returned (.bool ok) ∧ ClR X b BR k 10 r y w ok w' := by
  have F11 : Hid (∀ wx : World, At X k wx → Calls Tryd.prog 53 #[.pointer (some ⟨X.BP, 0, none⟩), .string ⟨#[102, 114, 111, 109]⟩] wx fun e w' => e = .returned (.bool false) ∧ Below wx.heap.size wx w') := fun wx hh => takes_no (W := wordL 11) hw (show wordL 10 ≠ wordL 11 by decide) (by decide) wx hh
  have F12 : Hid (∀ wx : World, At X k wx → Calls Tryd.prog 53 #[.pointer (some ⟨X.BP, 0, none⟩), .string ⟨#[116, 111]⟩] wx fun e w' => e = .returned (.bool false) ∧ Below wx.heap.size wx w') := fun wx hh => takes_no (W := wordL 12) hw (show wordL 10 ≠ wordL 12 by decide) (by decide) wx hh
  have F0 : Hid (∀ wx : World, At X k wx → Calls Tryd.prog 53 #[.pointer (some ⟨X.BP, 0, none⟩), .string ⟨#[118, 105, 97]⟩] wx fun e w' => e = .returned (.bool false) ∧ Below wx.heap.size wx w') := fun wx hh => takes_no (W := wordL 0) hw (show wordL 10 ≠ wordL 0 by decide) (by decide) wx hh
  have F1 : Hid (∀ wx : World, At X k wx → Calls Tryd.prog 53 #[.pointer (some ⟨X.BP, 0, none⟩), .string ⟨#[97, 118, 111, 105, 100, 45, 110, 111, 100, 101, 115]⟩] wx fun e w' => e = .returned (.bool false) ∧ Below wx.heap.size wx w') := fun wx hh => takes_no (W := wordL 1) hw (show wordL 10 ≠ wordL 1 by decide) (by decide) wx hh
  have F2 : Hid (∀ wx : World, At X k wx → Calls Tryd.prog 53 #[.pointer (some ⟨X.BP, 0, none⟩), .string ⟨#[97, 118, 111, 105, 100, 45, 108, 105, 110, 107, 115]⟩] wx fun e w' => e = .returned (.bool false) ∧ Below wx.heap.size wx w') := fun wx hh => takes_no (W := wordL 2) hw (show wordL 10 ≠ wordL 2 by decide) (by decide) wx hh
  have F3 : Hid (∀ wx : World, At X k wx → Calls Tryd.prog 53 #[.pointer (some ⟨X.BP, 0, none⟩), .string ⟨#[97, 118, 111, 105, 100, 45, 99, 111, 108, 111, 117, 114, 115]⟩] wx fun e w' => e = .returned (.bool false) ∧ Below wx.heap.size wx w') := fun wx hh => takes_no (W := wordL 3) hw (show wordL 10 ≠ wordL 3 by decide) (by decide) wx hh
  have F4 : Hid (∀ wx : World, At X k wx → Calls Tryd.prog 53 #[.pointer (some ⟨X.BP, 0, none⟩), .string ⟨#[99, 111, 115, 116]⟩] wx fun e w' => e = .returned (.bool false) ∧ Below wx.heap.size wx w') := fun wx hh => takes_no (W := wordL 4) hw (show wordL 10 ≠ wordL 4 by decide) (by decide) wx hh
  have F5 : Hid (∀ wx : World, At X k wx → Calls Tryd.prog 53 #[.pointer (some ⟨X.BP, 0, none⟩), .string ⟨#[115, 114, 99]⟩] wx fun e w' => e = .returned (.bool false) ∧ Below wx.heap.size wx w') := fun wx hh => takes_no (W := wordL 5) hw (show wordL 10 ≠ wordL 5 by decide) (by decide) wx hh
  have F6 : Hid (∀ wx : World, At X k wx → Calls Tryd.prog 53 #[.pointer (some ⟨X.BP, 0, none⟩), .string ⟨#[100, 115, 116]⟩] wx fun e w' => e = .returned (.bool false) ∧ Below wx.heap.size wx w') := fun wx hh => takes_no (W := wordL 6) hw (show wordL 10 ≠ wordL 6 by decide) (by decide) wx hh
  have F7 : Hid (∀ wx : World, At X k wx → Calls Tryd.prog 53 #[.pointer (some ⟨X.BP, 0, none⟩), .string ⟨#[112, 114, 111, 116, 111]⟩] wx fun e w' => e = .returned (.bool false) ∧ Below wx.heap.size wx w') := fun wx hh => takes_no (W := wordL 7) hw (show wordL 10 ≠ wordL 7 by decide) (by decide) wx hh
  have F8 : Hid (∀ wx : World, At X k wx → Calls Tryd.prog 53 #[.pointer (some ⟨X.BP, 0, none⟩), .string ⟨#[115, 112, 111, 114, 116]⟩] wx fun e w' => e = .returned (.bool false) ∧ Below wx.heap.size wx w') := fun wx hh => takes_no (W := wordL 8) hw (show wordL 10 ≠ wordL 8 by decide) (by decide) wx hh
  have F9 : Hid (∀ wx : World, At X k wx → Calls Tryd.prog 53 #[.pointer (some ⟨X.BP, 0, none⟩), .string ⟨#[100, 112, 111, 114, 116]⟩] wx fun e w' => e = .returned (.bool false) ∧ Below wx.heap.size wx w') := fun wx hh => takes_no (W := wordL 9) hw (show wordL 10 ≠ wordL 9 by decide) (by decide) wx hh
  have FY : Hid (∀ wx : World, At X k wx → Calls Tryd.prog 53 #[.pointer (some ⟨X.BP, 0, none⟩), .string ⟨#[115, 116, 114, 105, 99, 116]⟩] wx fun e w' => e = .returned (.bool true) ∧ But X.BP wx w' ∧ At X (k + 1) w') := fun wx hh => takes_yes (W := wordL 10) hw (by decide) wx hh
  have HX := hid hx
  have HO := hid ho
  have HH := hid h
  clear h hw hx ho
  go_enter Tryd.func57, Tryd.ntmps57
  go_wp2_with fail
  go_big_quiet (fail)
  obtain ⟨wd, hwd⟩ : ∃ wd, (w.drewN nq) = wd := ⟨_, rfl⟩
  have HB0 := hid (show Below w.heap.size w wd from hwd ▸ below_drewN (Below.refl _ _))
  have HA0 := hid (HH.out.on HB0.out)
  rw [hwd]
  clear hwd
  go_wp2_with (first
    | (go_at_call 53; (with_reducible refine (F11.out _ HA0.out).mono ?_); rintro e' w1 ⟨rfl, hb1⟩; have HA1 := hid (HA0.out.on hb1); have HB1 := hid (HB0.out.trans (hb1.mono HB0.out.size)); clear hb1)
    | (go_at_call 53; (with_reducible refine (F12.out _ HA1.out).mono ?_); rintro e' w2 ⟨rfl, hb2⟩; have HA2 := hid (HA1.out.on hb2); have HB2 := hid (HB1.out.trans (hb2.mono HB1.out.size)); clear hb2)
    | (go_at_call 53; (with_reducible refine (F0.out _ HA2.out).mono ?_); rintro e' w3 ⟨rfl, hb3⟩; have HA3 := hid (HA2.out.on hb3); have HB3 := hid (HB2.out.trans (hb3.mono HB2.out.size)); clear hb3)
    | (go_at_call 53; (with_reducible refine (F1.out _ HA3.out).mono ?_); rintro e' w4 ⟨rfl, hb4⟩; have HA4 := hid (HA3.out.on hb4); have HB4 := hid (HB3.out.trans (hb4.mono HB3.out.size)); clear hb4)
    | (go_at_call 53; (with_reducible refine (F2.out _ HA4.out).mono ?_); rintro e' w5 ⟨rfl, hb5⟩; have HA5 := hid (HA4.out.on hb5); have HB5 := hid (HB4.out.trans (hb5.mono HB4.out.size)); clear hb5)
    | (go_at_call 53; (with_reducible refine (F3.out _ HA5.out).mono ?_); rintro e' w6 ⟨rfl, hb6⟩; have HA6 := hid (HA5.out.on hb6); have HB6 := hid (HB5.out.trans (hb6.mono HB5.out.size)); clear hb6)
    | (go_at_call 53; (with_reducible refine (F4.out _ HA6.out).mono ?_); rintro e' w7 ⟨rfl, hb7⟩; have HA7 := hid (HA6.out.on hb7); have HB7 := hid (HB6.out.trans (hb7.mono HB6.out.size)); clear hb7)
    | (go_at_call 53; (with_reducible refine (F5.out _ HA7.out).mono ?_); rintro e' w8 ⟨rfl, hb8⟩; have HA8 := hid (HA7.out.on hb8); have HB8 := hid (HB7.out.trans (hb8.mono HB7.out.size)); clear hb8)
    | (go_at_call 53; (with_reducible refine (F6.out _ HA8.out).mono ?_); rintro e' w9 ⟨rfl, hb9⟩; have HA9 := hid (HA8.out.on hb9); have HB9 := hid (HB8.out.trans (hb9.mono HB8.out.size)); clear hb9)
    | (go_at_call 53; (with_reducible refine (F7.out _ HA9.out).mono ?_); rintro e' w10 ⟨rfl, hb10⟩; have HA10 := hid (HA9.out.on hb10); have HB10 := hid (HB9.out.trans (hb10.mono HB9.out.size)); clear hb10)
    | (go_at_call 53; (with_reducible refine (F8.out _ HA10.out).mono ?_); rintro e' w11 ⟨rfl, hb11⟩; have HA11 := hid (HA10.out.on hb11); have HB11 := hid (HB10.out.trans (hb11.mono HB10.out.size)); clear hb11)
    | (go_at_call 53; (with_reducible refine (F9.out _ HA11.out).mono ?_); rintro e' w12 ⟨rfl, hb12⟩; have HA12 := hid (HA11.out.on hb12); have HB12 := hid (HB11.out.trans (hb12.mono HB11.out.size)); clear hb12)
    | (go_at_call 53; (with_reducible refine (FY.out _ HA12.out).mono ?_); rintro e' wy ⟨rfl, hby, hay⟩; have HAy := hid hay; have HBy := hid ((But2.fst (C := BR) (But.of HB12.out)).trans (But2.fst hby)); have HXy := hid ((HX.out.on HB12.out).but2 HA12.out hby); have HOy := hid (rown_but2 HO.out HH.out HX.out HBy.out); clear hby hay; have fz := frozen_of_row _ _ 16 _ _ HXy.out.box; have fc := (cell_of_row _ _ 16 _ _ _ HXy.out.box).trans (show (rarr r y)[16]? = some (.bool r.strict) from rfl)))
  go_ret
  refine ⟨true, rfl, HBy.out.trans (But2.snd But.set), { r with strict := true }, y, k + 1, HXy.out.set 16 (.bool true), HXy.out.at HAy.out 16 _, ?_, fun _ _ _ => rfl, fun _ => .inl rfl, fun hh => by cases hh⟩
  exact rown_but2 HOy.out HAy.out HXy.out (But2.snd But.set)
theorem rclause_11 (X : Rdr) (b BR k : Nat) (r : Rul) (y : WSl) (w : World) (h : At X k w) (hx : Box X BR (rarr r y) 67 w) (ho : RoB b w r.x y) (hw : textAt X.l k = wordL 11) :
    Calls Tryd.prog 57 #[.pointer (some ⟨X.BP, 0, none⟩), .pointer (some ⟨BR, 0, none⟩)] w fun e w' => ∃ ok, e = .returned (.bool ok) ∧ ClR X b BR k 11 r y w ok w' := by
  have FY : Hid (∀ wx : World, At X k wx → Calls Tryd.prog 53 #[.pointer (some ⟨X.BP, 0, none⟩), .string ⟨#[102, 114, 111, 109]⟩] wx fun e w' => e = .returned (.bool true) ∧ But X.BP wx w' ∧ At X (k + 1) w') := fun wx hh => takes_yes (W := wordL 11) hw (by decide) wx hh
  have HX := hid hx
  have HO := hid ho
  have HH := hid h
  clear h hw hx ho
  go_enter Tryd.func57, Tryd.ntmps57
  go_wp2_with fail
  go_big_quiet (fail)
  obtain ⟨wd, hwd⟩ : ∃ wd, (w.drewN nq) = wd := ⟨_, rfl⟩
  have HB0 := hid (show Below w.heap.size w wd from hwd ▸ below_drewN (Below.refl _ _))
  have HA0 := hid (HH.out.on HB0.out)
  rw [hwd]
  clear hwd
  go_wp2_with (first
    | (go_at_call 53; (with_reducible refine (FY.out _ HA0.out).mono ?_); rintro e' wy ⟨rfl, hby, hay⟩; have HAy := hid hay; have HBy := hid ((But2.fst (C := BR) (But.of HB0.out)).trans (But2.fst hby)); have HXy := hid ((HX.out.on HB0.out).but2 HA0.out hby); have HOy := hid (rown_but2 HO.out HH.out HX.out HBy.out); clear hby hay)
    | (go_at_call 55; (with_reducible refine (rnum_any X (k + 1) BR 9 (rarr r y) 67 _ HAy.out HXy.out rfl).mono ?_); intro e' wz hz; obtain ⟨ok, rfl, hz2⟩ := cl_num (i := 11) (fun r v => { r with x := { r.x with frm := (v : Int) } }) (fun _ => rfl) (fun _ => rfl) (fun _ => ⟨rfl, rfl, rfl, rfl⟩) HBy.out HAy.out HXy.out HOy.out hz; have HZ := hid hz2; clear hz hz2))
  go_ret
  exact ⟨ok, rfl, HZ.out⟩
theorem rclause_12 (X : Rdr) (b BR k : Nat) (r : Rul) (y : WSl) (w : World) (h : At X k w) (hx : Box X BR (rarr r y) 67 w) (ho : RoB b w r.x y) (hw : textAt X.l k = wordL 12) :
    Calls Tryd.prog 57 #[.pointer (some ⟨X.BP, 0, none⟩), .pointer (some ⟨BR, 0, none⟩)] w fun e w' => ∃ ok, e = .returned (.bool ok) ∧ ClR X b BR k 12 r y w ok w' := by
  have F11 : Hid (∀ wx : World, At X k wx → Calls Tryd.prog 53 #[.pointer (some ⟨X.BP, 0, none⟩), .string ⟨#[102, 114, 111, 109]⟩] wx fun e w' => e = .returned (.bool false) ∧ Below wx.heap.size wx w') := fun wx hh => takes_no (W := wordL 11) hw (show wordL 12 ≠ wordL 11 by decide) (by decide) wx hh
  have FY : Hid (∀ wx : World, At X k wx → Calls Tryd.prog 53 #[.pointer (some ⟨X.BP, 0, none⟩), .string ⟨#[116, 111]⟩] wx fun e w' => e = .returned (.bool true) ∧ But X.BP wx w' ∧ At X (k + 1) w') := fun wx hh => takes_yes (W := wordL 12) hw (by decide) wx hh
  have HX := hid hx
  have HO := hid ho
  have HH := hid h
  clear h hw hx ho
  go_enter Tryd.func57, Tryd.ntmps57
  go_wp2_with fail
  go_big_quiet (fail)
  obtain ⟨wd, hwd⟩ : ∃ wd, (w.drewN nq) = wd := ⟨_, rfl⟩
  have HB0 := hid (show Below w.heap.size w wd from hwd ▸ below_drewN (Below.refl _ _))
  have HA0 := hid (HH.out.on HB0.out)
  rw [hwd]
  clear hwd
  go_wp2_with (first
    | (go_at_call 53; (with_reducible refine (F11.out _ HA0.out).mono ?_); rintro e' w1 ⟨rfl, hb1⟩; have HA1 := hid (HA0.out.on hb1); have HB1 := hid (HB0.out.trans (hb1.mono HB0.out.size)); clear hb1)
    | (go_at_call 53; (with_reducible refine (FY.out _ HA1.out).mono ?_); rintro e' wy ⟨rfl, hby, hay⟩; have HAy := hid hay; have HBy := hid ((But2.fst (C := BR) (But.of HB1.out)).trans (But2.fst hby)); have HXy := hid ((HX.out.on HB1.out).but2 HA1.out hby); have HOy := hid (rown_but2 HO.out HH.out HX.out HBy.out); clear hby hay)
    | (go_at_call 55; (with_reducible refine (rnum_any X (k + 1) BR 10 (rarr r y) 67 _ HAy.out HXy.out rfl).mono ?_); intro e' wz hz; obtain ⟨ok, rfl, hz2⟩ := cl_num (i := 12) (fun r v => { r with x := { r.x with too := (v : Int) } }) (fun _ => rfl) (fun _ => rfl) (fun _ => ⟨rfl, rfl, rfl, rfl⟩) HBy.out HAy.out HXy.out HOy.out hz; have HZ := hid hz2; clear hz hz2))
  go_ret
  exact ⟨ok, rfl, HZ.out⟩
end Go.Proofs.YtcmkcloapenpnaaDoor
