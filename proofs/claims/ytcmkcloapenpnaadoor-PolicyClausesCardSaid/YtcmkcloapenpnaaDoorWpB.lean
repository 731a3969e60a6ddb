/- words.Split: by goto from state to state. -/
import Derived.Test.YtcmkcloapenpnaaDoorWpA
import Derived.ScopeJumps
import Derived.WalkMore
namespace Go.Proofs.YtcmkcloapenpnaaDoor
open Go.RowKit
set_option maxHeartbeats 6400000
set_option maxRecDepth 100000
/-- As Q; by a goto to label l: J l. -/
def jumps (J : Nat → Act → World → Prop) (Q : Exit → Act → World → Prop) : Exit → Act → World → Prop
  | .goto l, a, w => J l a w
  | e, a, w => Q e a w
section
variable {P : Program} {a : Act} {w : World} {Q : Exit → Act → World → Prop}
theorem jumps_goto {J : Nat → Act → World → Prop} {l : Nat} : jumps J Q (.goto l) a w = J l a w := rfl
theorem jumps_ret {J : Nat → Act → World → Prop} : jumps J Q .ret a w = Q .ret a w := rfl
theorem jumps_normal {J : Nat → Act → World → Prop} : jumps J Q .normal a w = Q .normal a w := rfl
theorem wp_scope_labels {c : Code} (J : Nat → Act → World → Prop) (μ : Nat → Act → World → Nat)
    (first0 : (∀ l a w rest, J l a w → findLabel c l = some (.seq .skip rest) → rest.wp P (jumps J Q) a w) → c.wp P (jumps J Q) a w)
    (pass0 : ∀ l a w, J l a w → ∃ rest, findLabel c l = some (.seq .skip rest) ∧ rest.wp P (jumps (fun l' a' w' => J l' a' w' ∧ μ l' a' w' < μ l a w) Q) a w) : (Code.scope c).wp P Q a w := by
  have first : c.wp P (jumps J Q) a w := first0 fun l a w rest hJ hf => by
    obtain ⟨rest', hf', hp⟩ := pass0 l a w hJ
    rw [hf] at hf'
    obtain rfl : rest = rest' := by simpa using hf'
    refine wp_mono hp fun e a w h => ?_
    cases e <;> first | exact h | exact h.1
  have pass : ∀ l a w, J l a w → ∃ rest, findLabel c l = some rest ∧ rest.wp P (jumps (fun l' a' w' => J l' a' w' ∧ μ l' a' w' < μ l a w) Q) a w := fun l a w hJ => by
    obtain ⟨rest, hf, hp⟩ := pass0 l a w hJ
    exact ⟨_, hf, wp_seq (wp_skip hp)⟩
  intro b k cs
  have key : ∀ n l a w, μ l a w = n → J l a w → ∃ rest, findLabel c l = some rest ∧ ∃ e a' w', Q e a' w' ∧ Arrives P (lone (b.at a (.code rest :: .inScope c :: k)) cs w) b k cs e a' w' := by
    intro n
    induction n using Nat.strongRecOn with
    | _ n ih =>
      intro l a w hn hJ
      obtain ⟨rest, hf, hp⟩ := pass l a w hJ
      refine ⟨rest, hf, ?_⟩
      obtain ⟨e, a₁, w₁, hq, harr⟩ := hp b (.inScope c :: k) cs
      cases e with
      | normal => exact ⟨.normal, a₁, w₁, hq, Steps.trans harr (.one step_inScope)⟩
      | exit id => exact ⟨.exit id, a₁, w₁, hq, fun k' hk => harr k' (by simp [exitTo, hk])⟩
      | goto l' =>
        obtain ⟨hJ', hlt⟩ := hq
        obtain ⟨rest', hf', e₂, a₂, w₂, hq₂, harr₂⟩ := ih _ (by omega) l' a₁ w₁ rfl hJ'
        have hg : gotoIn l' (.inScope c :: k) = some (.code rest' :: .inScope c :: k) := by simp [gotoIn, hf']
        exact ⟨e₂, a₂, w₂, hq₂, .of_steps (harr _ hg) harr₂⟩
      | ret => exact ⟨_, a₁, w₁, hq, harr⟩
      | panic ch => exact ⟨_, a₁, w₁, hq, harr⟩
      | outgrown => exact ⟨_, a₁, w₁, hq, harr⟩
  obtain ⟨e, a₁, w₁, hq, harr⟩ := first b (.inScope c :: k) cs
  cases e with
  | normal => exact ⟨.normal, a₁, w₁, hq, .head step_scope (Steps.trans harr (.one step_inScope))⟩
  | exit id => exact ⟨.exit id, a₁, w₁, hq, fun k' hk => .head step_scope (harr k' (by simp [exitTo, hk]))⟩
  | goto l' =>
    have hJ' : J l' a₁ w₁ := hq
    obtain ⟨rest', hf', e₂, a₂, w₂, hq₂, harr₂⟩ := key _ l' a₁ w₁ rfl hJ'
    have hg : gotoIn l' (.inScope c :: k) = some (.code rest' :: .inScope c :: k) := by simp [gotoIn, hf']
    exact ⟨e₂, a₂, w₂, hq₂, .of_steps (.head step_scope (harr _ hg)) harr₂⟩
  | ret => exact ⟨_, a₁, w₁, hq, .of_steps (.one step_scope) harr⟩
  | panic ch => exact ⟨_, a₁, w₁, hq, .of_steps (.one step_scope) harr⟩
  | outgrown => exact ⟨_, a₁, w₁, hq, .of_steps (.one step_scope) harr⟩
end


/-- A run that began at k and has come to j. -/
def RunAt (s : List UInt8) (P : UInt8 → Bool) (k j : Nat) : Prop := k ≤ j ∧ j < s.length ∧ ∀ q, k ≤ q → q ≤ j → ∀ c, s[q]? = some c → P c = true
/-- What holds at each of Split's labels: 0 between tokens, 1 in a comment, 2 in a word, 3 in a number, 4 at a sign. -/
def SpAt (s : List UInt8) (l : Nat) (k j : Nat) (D : List Tok) : Prop :=
  match l with
  | 0 => k ≤ j ∧ j ≤ s.length ∧ D.length ≤ j ∧ scanAt s 0 = (D ++ (scanAt s j).1, (scanAt s j).2)
  | 1 => D.length ≤ k ∧ RunAt s isRm k j ∧ ∀ e, k + ((s.drop k).takeWhile isRm).length = e → scanAt s 0 = (D ++ (scanAt s e).1, (scanAt s e).2)
  | 2 => D.length ≤ k ∧ RunAt s isWd k j ∧ ∀ e, k + ((s.drop k).takeWhile isWd).length = e → scanAt s 0 = (D ++ (⟨1, k, (s.drop k).takeWhile isWd⟩ :: (scanAt s e).1), (scanAt s e).2)
  | 3 => D.length ≤ k ∧ RunAt s isNm k j ∧ ∀ e, k + ((s.drop k).takeWhile isNm).length = e → scanAt s 0 = (D ++ (⟨2, k, (s.drop k).takeWhile isNm⟩ :: (scanAt s e).1), (scanAt s e).2)
  | 4 => D.length ≤ k ∧ k = j ∧ s[k]? = some 59 ∧ scanAt s 0 = (D ++ (⟨3, k, [59]⟩ :: (scanAt s (k + 1)).1), (scanAt s (k + 1)).2)
  | _ => False
def SpW (s : List UInt8) (w : World) (l : Nat) (v : Value) (k j : Nat) (wr : World) : Prop :=
  ∃ D : List Tok, SpAt s l k j D ∧ wr.ownsRow w.heap.size 90 3 v D.length (tcells D) ∧ Below w.heap.size w wr
def SpJ (s : List UInt8) (w : World) (l : Nat) (a : Act) (wr : World) : Prop :=
  ∃ (v : Value) (k j : Nat) (u1 u2 u3 u4 u8 u9 u10 u11 u12 u13 u14 u15 u16 u17 u18 u19 u20 u21 u22 u23 u24 u25 u26 u27 u28 u29 u30 u31 u32 u33 u34 u35 u36 u37 u38 u39 u40 u41 u42 u43 u44 u45 u46 u47 u48 u49 u50 u51 u52 u53 u54 u55 u56 u57 u58 u59 u60 u61 u62 u63 u64 u65 u66 u67 u68 u69 u70 u71 u72 u73 u74 u75 u76 u77 u78 u79 u80 u81 u82 u83 u84 u85 u86 u87 u88 u89 u90 u91 u92 u93 u94 u95 u96 u97 u98 u99 u100 u101 : Value),
    a = { tmps := #[.string (txt s), u1, u2, u3, u4, v, .int .i64 (k : Int), .int .i64 (j : Int), u8, u9, u10, u11, u12, u13, u14, u15, u16, u17, u18, u19, u20, u21, u22, u23, u24, u25, u26, u27, u28, u29, u30, u31, u32, u33, u34, u35, u36, u37, u38, u39, u40, u41, u42, u43, u44, u45, u46, u47, u48, u49, u50, u51, u52, u53, u54, u55, u56, u57, u58, u59, u60, u61, u62, u63, u64, u65, u66, u67, u68, u69, u70, u71, u72, u73, u74, u75, u76, u77, u78, u79, u80, u81, u82, u83, u84, u85, u86, u87, u88, u89, u90, u91, u92, u93, u94, u95, u96, u97, u98, u99, u100, u101], defers := [] } ∧ SpW s w l v k j wr
def intV : Value → Nat | .int .i64 n => n.toNat | _ => 0
def SpM (s : List UInt8) (l : Nat) (a : Act) (_ : World) : Nat := 2 * (s.length - intV (a.tmps.getD 7 undef)) + (match l with | 0 => 1 | _ => 0)
theorem SpM_eq (s : List UInt8) (l j : Nat) (t : Array Value) (w : World) (h : t.getD 7 undef = .int .i64 (j : Int)) : SpM s l ⟨t, []⟩ w = 2 * (s.length - j) + (match l with | 0 => 1 | _ => 0) := by
  unfold SpM; rw [h]; rfl
theorem one_at {s : List UInt8} {k : Nat} {c : UInt8} (h : s[k]? = some c) : (s.drop k).take 1 = [c] := by
  obtain ⟨hi, hc⟩ := List.getElem?_eq_some_iff.1 h
  rw [List.drop_eq_getElem_cons hi, hc]; rfl
theorem one_run {s : List UInt8} {P : UInt8 → Bool} {j : Nat} {x : UInt8} (h : P x = true) (hx : s[j]? = some x) : RunAt s P j j :=
  ⟨Nat.le_refl _, (List.getElem?_eq_some_iff.1 hx).1, fun q h1 h2 c hc => by obtain rfl : q = j := by omega
                                                                             rw [hx] at hc; cases hc; exact h⟩
theorem landSplit_in (s : List UInt8) (w : World) (hs : s.length ≤ 10000) : Calls Tryd.prog 33 #[.string (txt s)] w (SplitAns (splitS s) w) := by
  obtain ⟨m, hm⟩ : ∃ m, s.length = m := ⟨_, rfl⟩
  have hZ : (txt s).size = m := by rw [txt_size, hm]
  have t1 : decide ((10000 : Int) < (m : Int)) = false := decide_eq_false (by omega)
  have hm10 : m ≤ 10000 := by omega
  have HX := hid (fun (i : Nat) (x : UInt8) (h : s[i]? = some x) => run_at s i x h)
  have HTok := hid (fun (kd : Int) (i j : Nat) (h : i ≤ j) (hj : j ≤ s.length) (W : World) => token_any kd s i j h hj hs W)
  have HLt := hid (fun (c : UInt8) (W : World) => isLetter_any c W)
  have HDg := hid (fun (c : UInt8) (W : World) => isDigit_any c W)
  have HWd := hid (fun (c : UInt8) (W : World) => staysInWord_any c W)
  have HNm := hid (fun (c : UInt8) (W : World) => staysInNumber_any c W)
  obtain ⟨i5, hi, hz0, hz1, hz2⟩ := info_parts (show (Tryd.prog.info? 90).map (fun i => (i.zero, i.size, i.bytes)) = some (some (.agg #[.int .i64 0, .int .i64 0, .string ByteArray.empty]), 3, 32) by kernel_rfl)
  have Ai := hid hi; have Az0 := hid hz0; have Az1 := hid hz1; have Az2 := hid hz2
  have Hm := hid hm
  clear hi hz0 hz1 hz2 hm
  go_enter Tryd.func33, Tryd.ntmps33
  go_wp2_with fail
  refine wp_scope_labels (SpJ s w) (SpM s) (fun hp => ?_) ?_
  · have HP := hid hp
    clear hp
    go_wp2_with fail
    go_step3
    rename_i K hK
    refine hK _ _ ?_
    refine HP.out 0 _ _ _ ⟨.slice none 0 0, 0, 0, _, _, _, _, _, _, _, _, _, _, _, _, _, _, _, _, _, _, _, _, _, _, _, _, _, _, _, _, _, _, _, _, _, _, _, _, _, _, _, _, _, _, _, _, _, _, _, _, _, _, _, _, _, _, _, _, _, _, _, _, _, _, _, _, _, _, _, _, _, _, _, _, _, _, _, _, _, _, _, _, _, _, _, _, _, _, _, _, _, _, _, _, _, _, _, _, _, _, rfl, [], ⟨Nat.le_refl _, Nat.zero_le _, Nat.le_refl _, rfl⟩, World.ownsRow_nil _ _ _ _, Below.refl _ _⟩ rfl
  · rintro l a wr ⟨v, k, j, u1, u2, u3, u4, u8, u9, u10, u11, u12, u13, u14, u15, u16, u17, u18, u19, u20, u21, u22, u23, u24, u25, u26, u27, u28, u29, u30, u31, u32, u33, u34, u35, u36, u37, u38, u39, u40, u41, u42, u43, u44, u45, u46, u47, u48, u49, u50, u51, u52, u53, u54, u55, u56, u57, u58, u59, u60, u61, u62, u63, u64, u65, u66, u67, u68, u69, u70, u71, u72, u73, u74, u75, u76, u77, u78, u79, u80, u81, u82, u83, u84, u85, u86, u87, u88, u89, u90, u91, u92, u93, u94, u95, u96, u97, u98, u99, u100, u101, rfl, D, hat, hown, hbel⟩
    obtain ⟨A, c, rfl⟩ := pf_form hown
    have HO := hid hown
    have HB := hid hbel
    have hBs := hbel.size
    clear hown hbel
    match l, hat with
    | 0, hat =>
      refine ⟨_, rfl, ?_⟩
      obtain ⟨hkj, hj, hDj, hq⟩ := hat
      rw [Hm.out] at hj
      have HQ := hid hq
      have HDj := hid hDj
      clear hq hDj hkj
      by_cases hlt : j < m
      · obtain ⟨x, hx⟩ : ∃ x, s[j]? = some x := ⟨s[j]'(by rw [Hm.out]; exact hlt), List.getElem?_eq_getElem _⟩
        have hrx := HX.out j x hx
        have te : ((j : Int) == (m : Int)) = false := beq_eq_false_iff_ne.2 (by omega)
        obtain ⟨j1, hj1⟩ : ∃ j1, j1 = j + 1 := ⟨_, rfl⟩
        have ew1 : IntKind.i64.wrap ((j : Int) + 1) = (j1 : Int) := by rw [IntKind.wrap_i64, hj1]; omega
        have HJ1 := hid hj1
        clear hj1
        have hst := scanAt_step hx
        have hLx := hid (HLt.out x)
        have hDx := hid (HDg.out x)
        have HXx := hid hx
        clear hx
        cases b1 : isBl x with
        | true =>
          rw [b1, if_pos rfl] at hst
          have HQ2 : Hid (scanAt s 0 = (D ++ (scanAt s j1).1, (scanAt s j1).2)) := by show _ = _; rw [HJ1.out, HQ.out, hst]
          cases c1 : (x == 32) with
          | true =>
            have u1 : ((x.toNat : Int) == 32) = true := u8_eq c1
            clear hst b1 c1
            go_wp2_with fail
            go_step3
            refine ⟨⟨_, j, j1, _, _, _, _, _, _, _, _, _, _, _, _, _, _, _, _, _, _, _, _, _, _, _, _, _, _, _, _, _, _, _, _, _, _, _, _, _, _, _, _, _, _, _, _, _, _, _, _, _, _, _, _, _, _, _, _, _, _, _, _, _, _, _, _, _, _, _, _, _, _, _, _, _, _, _, _, _, _, _, _, _, _, _, _, _, _, _, _, _, _, _, _, _, _, _, _, _, _, rfl, D, ⟨by have := HJ1.out; omega, by have := HJ1.out; have := Hm.out; omega, by have := HDj.out; have := HJ1.out; omega, HQ2.out⟩, HO.out, HB.out⟩, ?_⟩
            rw [SpM_eq s _ j1 _ _ rfl, SpM_eq s _ j _ _ rfl]
            have := HJ1.out; have := Hm.out
            simp only; omega
          | false =>
            have u1 : ((x.toNat : Int) == 32) = false := u8_ne c1
            have u2 : ((x.toNat : Int) == 10) = true := u8_eq (by unfold isBl at b1; rw [c1] at b1; simpa using b1)
            clear hst b1 c1
            go_wp2_with fail
            go_step3
            refine ⟨⟨_, j, j1, _, _, _, _, _, _, _, _, _, _, _, _, _, _, _, _, _, _, _, _, _, _, _, _, _, _, _, _, _, _, _, _, _, _, _, _, _, _, _, _, _, _, _, _, _, _, _, _, _, _, _, _, _, _, _, _, _, _, _, _, _, _, _, _, _, _, _, _, _, _, _, _, _, _, _, _, _, _, _, _, _, _, _, _, _, _, _, _, _, _, _, _, _, _, _, _, _, _, rfl, D, ⟨by have := HJ1.out; omega, by have := HJ1.out; have := Hm.out; omega, by have := HDj.out; have := HJ1.out; omega, HQ2.out⟩, HO.out, HB.out⟩, ?_⟩
            rw [SpM_eq s _ j1 _ _ rfl, SpM_eq s _ j _ _ rfl]
            have := HJ1.out; have := Hm.out
            simp only; omega
        | false =>
          have hb : (x == 32) = false ∧ (x == 10) = false := by unfold isBl at b1; rwa [Bool.or_eq_false_iff] at b1
          have u1 : ((x.toNat : Int) == 32) = false := u8_ne hb.1
          have u2 : ((x.toNat : Int) == 10) = false := u8_ne hb.2
          rw [b1, if_neg (by decide)] at hst
          cases b2 : (x == 35) with
          | true =>
            rw [b2, if_pos rfl] at hst
            have u3 : ((x.toNat : Int) == 35) = true := u8_eq b2
            have hPx : isRm x = true := by rw [eq_of_beq b2]; rfl
            have HQ2 : Hid (∀ e, j + ((s.drop j).takeWhile isRm).length = e → scanAt s 0 = (D ++ (scanAt s e).1, (scanAt s e).2)) := fun e he => by rw [HQ.out, hst, he]
            have HR2 : Hid (RunAt s isRm j j) := one_run hPx HXx.out
            clear hst hb b1 b2
            go_wp2_with fail
            go_step3
            refine ⟨⟨_, j, j, _, _, _, _, _, _, _, _, _, _, _, _, _, _, _, _, _, _, _, _, _, _, _, _, _, _, _, _, _, _, _, _, _, _, _, _, _, _, _, _, _, _, _, _, _, _, _, _, _, _, _, _, _, _, _, _, _, _, _, _, _, _, _, _, _, _, _, _, _, _, _, _, _, _, _, _, _, _, _, _, _, _, _, _, _, _, _, _, _, _, _, _, _, _, _, _, _, _, rfl, D, ⟨HDj.out, HR2.out, HQ2.out⟩, HO.out, HB.out⟩, ?_⟩
            rw [SpM_eq s _ j _ _ rfl, SpM_eq s _ j _ _ rfl]
            simp only; omega
          | false =>
            have u3 : ((x.toNat : Int) == 35) = false := u8_ne b2
            rw [b2, if_neg (by decide)] at hst
            cases b3 : isLt x with
            | true =>
              rw [b3, if_pos rfl] at hst
              rw [b3] at hLx
              have hPx : isWd x = true := by unfold isWd; rw [b3]; rfl
              have HQ2 : Hid (∀ e, j + ((s.drop j).takeWhile isWd).length = e → scanAt s 0 = (D ++ (⟨1, j, (s.drop j).takeWhile isWd⟩ :: (scanAt s e).1), (scanAt s e).2)) := fun e he => by rw [HQ.out, hst, he]
              have HR2 : Hid (RunAt s isWd j j) := one_run hPx HXx.out
              clear hst hb b1 b2 b3
              go_wp2_with (first
            | (go_at_call 47; (with_reducible refine (hLx.out _).mono ?_); rintro _ _ ⟨rfl, rfl⟩)
            | (go_at_call 48; (with_reducible refine (hDx.out _).mono ?_); rintro _ _ ⟨rfl, rfl⟩))
              go_step3
              refine ⟨⟨_, j, j, _, _, _, _, _, _, _, _, _, _, _, _, _, _, _, _, _, _, _, _, _, _, _, _, _, _, _, _, _, _, _, _, _, _, _, _, _, _, _, _, _, _, _, _, _, _, _, _, _, _, _, _, _, _, _, _, _, _, _, _, _, _, _, _, _, _, _, _, _, _, _, _, _, _, _, _, _, _, _, _, _, _, _, _, _, _, _, _, _, _, _, _, _, _, _, _, _, _, rfl, D, ⟨HDj.out, HR2.out, HQ2.out⟩, HO.out, HB.out⟩, ?_⟩
              rw [SpM_eq s _ j _ _ rfl, SpM_eq s _ j _ _ rfl]
              simp only; omega
            | false =>
              rw [b3, if_neg (by decide)] at hst
              rw [b3] at hLx
              cases b4 : isDg x with
              | true =>
                rw [b4, if_pos rfl] at hst
                rw [b4] at hDx
                have hPx : isNm x = true := by unfold isNm; rw [b4]; rfl
                have HQ2 : Hid (∀ e, j + ((s.drop j).takeWhile isNm).length = e → scanAt s 0 = (D ++ (⟨2, j, (s.drop j).takeWhile isNm⟩ :: (scanAt s e).1), (scanAt s e).2)) := fun e he => by rw [HQ.out, hst, he]
                have HR2 : Hid (RunAt s isNm j j) := one_run hPx HXx.out
                clear hst hb b1 b2 b3 b4
                go_wp2_with (first
            | (go_at_call 47; (with_reducible refine (hLx.out _).mono ?_); rintro _ _ ⟨rfl, rfl⟩)
            | (go_at_call 48; (with_reducible refine (hDx.out _).mono ?_); rintro _ _ ⟨rfl, rfl⟩))
                go_step3
                refine ⟨⟨_, j, j, _, _, _, _, _, _, _, _, _, _, _, _, _, _, _, _, _, _, _, _, _, _, _, _, _, _, _, _, _, _, _, _, _, _, _, _, _, _, _, _, _, _, _, _, _, _, _, _, _, _, _, _, _, _, _, _, _, _, _, _, _, _, _, _, _, _, _, _, _, _, _, _, _, _, _, _, _, _, _, _, _, _, _, _, _, _, _, _, _, _, _, _, _, _, _, _, _, _, rfl, D, ⟨HDj.out, HR2.out, HQ2.out⟩, HO.out, HB.out⟩, ?_⟩
                rw [SpM_eq s _ j _ _ rfl, SpM_eq s _ j _ _ rfl]
                simp only; omega
              | false =>
                rw [b4, if_neg (by decide)] at hst
                rw [b4] at hDx
                cases b5 : (x == 59) with
                | true =>
                  rw [b5, if_pos rfl] at hst
                  have u4 : ((x.toNat : Int) == 59) = true := u8_eq b5
                  have HQ2 : Hid (scanAt s 0 = (D ++ (⟨3, j, [59]⟩ :: (scanAt s (j + 1)).1), (scanAt s (j + 1)).2)) := by show _ = _; rw [HQ.out, hst]
                  have H59 : Hid (s[j]? = some 59) := by show _ = _; rw [HXx.out, eq_of_beq b5]
                  clear hst hb b1 b2 b3 b4 b5
                  go_wp2_with (first
            | (go_at_call 47; (with_reducible refine (hLx.out _).mono ?_); rintro _ _ ⟨rfl, rfl⟩)
            | (go_at_call 48; (with_reducible refine (hDx.out _).mono ?_); rintro _ _ ⟨rfl, rfl⟩))
                  go_step3
                  refine ⟨⟨_, j, j, _, _, _, _, _, _, _, _, _, _, _, _, _, _, _, _, _, _, _, _, _, _, _, _, _, _, _, _, _, _, _, _, _, _, _, _, _, _, _, _, _, _, _, _, _, _, _, _, _, _, _, _, _, _, _, _, _, _, _, _, _, _, _, _, _, _, _, _, _, _, _, _, _, _, _, _, _, _, _, _, _, _, _, _, _, _, _, _, _, _, _, _, _, _, _, _, _, _, rfl, D, ⟨HDj.out, rfl, H59.out, HQ2.out⟩, HO.out, HB.out⟩, ?_⟩
                  rw [SpM_eq s _ j _ _ rfl, SpM_eq s _ j _ _ rfl]
                  simp only; omega
                | false =>
                  rw [b5, if_neg (by decide)] at hst
                  have u4 : ((x.toNat : Int) == 59) = false := u8_ne b5
                  have HV : Hid (splitS s = ([], (j : Int), 3)) := split_bad (l := D ++ []) hs (by rw [HQ.out, hst])
                  clear hst hb b1 b2 b3 b4 b5
                  go_wp2_with (first
            | (go_at_call 47; (with_reducible refine (hLx.out _).mono ?_); rintro _ _ ⟨rfl, rfl⟩)
            | (go_at_call 48; (with_reducible refine (hDx.out _).mono ?_); rintro _ _ ⟨rfl, rfl⟩))
                  rw [jumps_ret]
                  (try simp only [Exit.inBlock, Exit.then])
                  refine bodyPost_ret (results_tmp3 rfl _ _ _) rfl ?_
                  rw [HV.out]
                  exact ⟨_, rfl, World.ownsRow_nil _ _ _ _, HB.out⟩
      · obtain rfl : j = m := by omega
        have te : ((j : Int) == (j : Int)) = true := beq_self_eq_true _
        have HV : Hid (splitS s = (D, -1, 0)) := split_ok hs (by rw [HQ.out, scanAt_end (by rw [Hm.out]; exact Nat.le_refl _), List.append_nil])
        go_wp2_with fail
        rw [jumps_ret]
        (try simp only [Exit.inBlock, Exit.then])
        refine bodyPost_ret (results_tmp3 rfl _ _ _) rfl ?_
        rw [HV.out]
        exact ⟨_, rfl, HO.out, HB.out⟩
    | 1, hat =>
      refine ⟨_, rfl, ?_⟩
      obtain ⟨hDk, ⟨hkj, hjm, hin⟩, hq⟩ := hat
      have HQ2 := hid hq
      have HIn := hid hin
      have hjm2 : j < m := by rw [← Hm.out]; exact hjm
      clear hq hin
      obtain ⟨j1, hj1⟩ : ∃ j1, j1 = j + 1 := ⟨_, rfl⟩
      have ew1 : IntKind.i64.wrap ((j : Int) + 1) = (j1 : Int) := by rw [IntKind.wrap_i64, hj1]; omega
      have HJ1 := hid hj1
      have HIn1 : Hid (∀ q, k ≤ q → q < j1 → ∀ c, s[q]? = some c → isRm c = true) := fun q h1 h2 => HIn.out q h1 (by omega)
      clear hj1
      by_cases hlt : j1 < m
      · have te : decide ((j1 : Int) < (m : Int)) = true := decide_eq_true (by omega)
        obtain ⟨y, hy⟩ : ∃ y, s[j1]? = some y := ⟨s[j1]'(by rw [Hm.out]; exact hlt), List.getElem?_eq_getElem _⟩
        have hry := HX.out j1 y hy
        cases cy : (y == 10) with
        | false =>
          have v1 : ((y.toNat : Int) != 10) = true := by
            have h10 : ((y.toNat : Int) == 10) = false := u8_ne cy
            rw [bne, h10]; rfl
          have hyP : isRm y = true := by unfold isRm; rw [bne, cy]; rfl
          have HR2 : Hid (RunAt s isRm k j1) := ⟨by have := HJ1.out; omega, by rw [Hm.out]; exact hlt, fun q h1 h2 c hc => by
            rcases Nat.lt_or_eq_of_le h2 with h3 | rfl
            · exact HIn1.out q h1 h3 c hc
            · rw [hy] at hc; cases hc; exact hyP⟩
          clear cy hy hyP
          go_wp2_with (fail)
          go_step3
          refine ⟨⟨_, k, j1, _, _, _, _, _, _, _, _, _, _, _, _, _, _, _, _, _, _, _, _, _, _, _, _, _, _, _, _, _, _, _, _, _, _, _, _, _, _, _, _, _, _, _, _, _, _, _, _, _, _, _, _, _, _, _, _, _, _, _, _, _, _, _, _, _, _, _, _, _, _, _, _, _, _, _, _, _, _, _, _, _, _, _, _, _, _, _, _, _, _, _, _, _, _, _, _, _, _, rfl, D, ⟨hDk, HR2.out, HQ2.out⟩, HO.out, HB.out⟩, ?_⟩
          rw [SpM_eq s _ j1 _ _ rfl, SpM_eq s _ j _ _ rfl]
          have := HJ1.out; have := Hm.out
          simp only; omega
        | true =>
          have v1 : ((y.toNat : Int) != 10) = false := by
            have h10 : ((y.toNat : Int) == 10) = true := u8_eq cy
            rw [bne, h10]; rfl
          have hyP : isRm y = false := by rw [eq_of_beq cy]; rfl
          have hre := run_end (P := isRm) (i := k) (j := j1) (s := s) (by have := HJ1.out; omega) (by rw [Hm.out]; omega) HIn1.out (fun c hc => by rw [hy] at hc; cases hc; exact hyP)
          clear cy hy hyP
          have HE := hid (HQ2.out j1 hre.2)
          clear hre
          go_wp2_with fail
          go_step3
          refine ⟨⟨_, k, j1, _, _, _, _, _, _, _, _, _, _, _, _, _, _, _, _, _, _, _, _, _, _, _, _, _, _, _, _, _, _, _, _, _, _, _, _, _, _, _, _, _, _, _, _, _, _, _, _, _, _, _, _, _, _, _, _, _, _, _, _, _, _, _, _, _, _, _, _, _, _, _, _, _, _, _, _, _, _, _, _, _, _, _, _, _, _, _, _, _, _, _, _, _, _, _, _, _, _, rfl, D, ⟨by have := HJ1.out; omega, by have := HJ1.out; have := Hm.out; omega, by have := HJ1.out; omega, HE.out⟩, HO.out, HB.out⟩, ?_⟩
          rw [SpM_eq s _ j1 _ _ rfl, SpM_eq s _ j _ _ rfl]
          have := HJ1.out; have := Hm.out
          simp only; omega
      · have te : decide ((j1 : Int) < (m : Int)) = false := decide_eq_false (by omega)
        have hre := run_end (P := isRm) (i := k) (j := j1) (s := s) (by have := HJ1.out; omega) (by rw [Hm.out]; have := HJ1.out; omega) HIn1.out (fun c hc => by rw [List.getElem?_eq_none (by rw [Hm.out]; omega)] at hc; cases hc)
        have HE := hid (HQ2.out j1 hre.2)
        clear hre
        go_wp2_with fail
        go_step3
        refine ⟨⟨_, k, j1, _, _, _, _, _, _, _, _, _, _, _, _, _, _, _, _, _, _, _, _, _, _, _, _, _, _, _, _, _, _, _, _, _, _, _, _, _, _, _, _, _, _, _, _, _, _, _, _, _, _, _, _, _, _, _, _, _, _, _, _, _, _, _, _, _, _, _, _, _, _, _, _, _, _, _, _, _, _, _, _, _, _, _, _, _, _, _, _, _, _, _, _, _, _, _, _, _, _, rfl, D, ⟨by have := HJ1.out; omega, by have := HJ1.out; have := Hm.out; omega, by have := HJ1.out; omega, HE.out⟩, HO.out, HB.out⟩, ?_⟩
        rw [SpM_eq s _ j1 _ _ rfl, SpM_eq s _ j _ _ rfl]
        have := HJ1.out; have := Hm.out
        simp only; omega
    | 2, hat =>
      refine ⟨_, rfl, ?_⟩
      obtain ⟨hDk, ⟨hkj, hjm, hin⟩, hq⟩ := hat
      have HQ2 := hid hq
      have HIn := hid hin
      have hjm2 : j < m := by rw [← Hm.out]; exact hjm
      clear hq hin
      obtain ⟨j1, hj1⟩ : ∃ j1, j1 = j + 1 := ⟨_, rfl⟩
      have ew1 : IntKind.i64.wrap ((j : Int) + 1) = (j1 : Int) := by rw [IntKind.wrap_i64, hj1]; omega
      have HJ1 := hid hj1
      have HIn1 : Hid (∀ q, k ≤ q → q < j1 → ∀ c, s[q]? = some c → isWd c = true) := fun q h1 h2 => HIn.out q h1 (by omega)
      clear hj1
      by_cases hlt : j1 < m
      · have te : decide ((j1 : Int) < (m : Int)) = true := decide_eq_true (by omega)
        obtain ⟨y, hy⟩ : ∃ y, s[j1]? = some y := ⟨s[j1]'(by rw [Hm.out]; exact hlt), List.getElem?_eq_getElem _⟩
        have hry := HX.out j1 y hy
        have hSy := hid (HWd.out y)
        cases cy : isWd y with
        | true =>
          have hyP := cy
          rw [cy] at hSy
          have HR2 : Hid (RunAt s isWd k j1) := ⟨by have := HJ1.out; omega, by rw [Hm.out]; exact hlt, fun q h1 h2 c hc => by
            rcases Nat.lt_or_eq_of_le h2 with h3 | rfl
            · exact HIn1.out q h1 h3 c hc
            · rw [hy] at hc; cases hc; exact hyP⟩
          clear cy hy hyP
          go_wp2_with ((go_at_call 49; (with_reducible refine (hSy.out _).mono ?_); rintro _ _ ⟨rfl, rfl⟩))
          go_step3
          refine ⟨⟨_, k, j1, _, _, _, _, _, _, _, _, _, _, _, _, _, _, _, _, _, _, _, _, _, _, _, _, _, _, _, _, _, _, _, _, _, _, _, _, _, _, _, _, _, _, _, _, _, _, _, _, _, _, _, _, _, _, _, _, _, _, _, _, _, _, _, _, _, _, _, _, _, _, _, _, _, _, _, _, _, _, _, _, _, _, _, _, _, _, _, _, _, _, _, _, _, _, _, _, _, _, rfl, D, ⟨hDk, HR2.out, HQ2.out⟩, HO.out, HB.out⟩, ?_⟩
          rw [SpM_eq s _ j1 _ _ rfl, SpM_eq s _ j _ _ rfl]
          have := HJ1.out; have := Hm.out
          simp only; omega
        | false =>
          have hyP := cy
          rw [cy] at hSy
          have hre := run_end (P := isWd) (i := k) (j := j1) (s := s) (by have := HJ1.out; omega) (by rw [Hm.out]; omega) HIn1.out (fun c hc => by rw [hy] at hc; cases hc; exact hyP)
          clear cy hy hyP
          have HE : Hid (scanAt s 0 = ((D ++ [⟨1, k, (s.drop k).take (j1 - k)⟩]) ++ (scanAt s j1).1, (scanAt s j1).2)) := by
            show _ = _
            rw [HQ2.out j1 hre.2, hre.1, List.append_assoc]; rfl
          have hTk := HTok.out 1 k j1 (by have := HJ1.out; omega) (by have := HJ1.out; omega)
          obtain ⟨T, hT⟩ : ∃ T, (s.drop k).take (j1 - k) = T := ⟨_, rfl⟩
          rw [hT] at hTk HE
          clear hre hT
          replace hTk := hid hTk
          have HRh := hid (fun (v8 : Value) (w8 : World) (h : w8.ownsRow w.heap.size 90 3 v8 (D.length + 1) (tcells D ++ tcells [(⟨1, k, T⟩ : Tok)])) => (by rw [tcells_app, List.length_append]; exact h : w8.ownsRow w.heap.size 90 3 v8 (D ++ [(⟨1, k, T⟩ : Tok)]).length (tcells (D ++ [(⟨1, k, T⟩ : Tok)]))))
          have hlD : Hid ((D ++ [(⟨1, k, T⟩ : Tok)]).length ≤ j1) := by show _ ≤ _; rw [List.length_append, List.length_singleton]; have := HJ1.out; omega
          go_wp2_with (first | (go_at_call 49; (with_reducible refine (hSy.out _).mono ?_); rintro _ _ ⟨rfl, rfl⟩) | (go_at_call 50; (with_reducible refine (hTk.out _).mono ?_); rintro _ w5 ⟨rfl, hb5⟩; have HO5 := hid (own_below HO.out hb5); have HB5 := hid (HB.out.trans (hb5.mono hBs)); have hBs5 := HB5.out.size) | (at_builtin; refine wpList_append_own _ rfl (.tmp 67) (.tmp 72) 68 rfl w.heap.size 90 i5 (.agg #[.int .i64 0, .int .i64 0, .string ByteArray.empty]) 3 32 Tryd.underlying68 Ai.out Az0.out Az1.out Az2.out rfl (by decide) _ _ _ rfl (HO5.out.alloc _) ⟨w5.heap.size, 0, none⟩ 1 1 (tcells [⟨1, k, T⟩]) rfl rfl (new_row (show _ = (tcells [⟨1, k, T⟩]).toArray from rfl)) (tcells_one _) (by unfold maxLen; omega) (by omega) (by simp; omega) ?_; intro v8 w8 hown8 hg8 _; have HO8 := hid hown8; have HB8 := hid (Below.grown (HB5.out.alloc hBs5 _) hg8 (by simp; omega) (fun q hq => (HO5.out.lt q hq).1)); clear hown8))
          go_step3
          refine ⟨⟨_, k, j1, _, _, _, _, _, _, _, _, _, _, _, _, _, _, _, _, _, _, _, _, _, _, _, _, _, _, _, _, _, _, _, _, _, _, _, _, _, _, _, _, _, _, _, _, _, _, _, _, _, _, _, _, _, _, _, _, _, _, _, _, _, _, _, _, _, _, _, _, _, _, _, _, _, _, _, _, _, _, _, _, _, _, _, _, _, _, _, _, _, _, _, _, _, _, _, _, _, _, rfl, D ++ [⟨1, k, T⟩], ⟨by have := HJ1.out; omega, by have := HJ1.out; omega, hlD.out, HE.out⟩, HRh.out _ _ HO8.out, HB8.out⟩, ?_⟩
          rw [SpM_eq s _ j1 _ _ rfl, SpM_eq s _ j _ _ rfl]
          have := HJ1.out
          simp only; omega
      · have te : decide ((j1 : Int) < (m : Int)) = false := decide_eq_false (by omega)
        have hre := run_end (P := isWd) (i := k) (j := j1) (s := s) (by have := HJ1.out; omega) (by rw [Hm.out]; have := HJ1.out; omega) HIn1.out (fun c hc => by rw [List.getElem?_eq_none (by rw [Hm.out]; omega)] at hc; cases hc)
        have HE : Hid (scanAt s 0 = ((D ++ [⟨1, k, (s.drop k).take (j1 - k)⟩]) ++ (scanAt s j1).1, (scanAt s j1).2)) := by
          show _ = _
          rw [HQ2.out j1 hre.2, hre.1, List.append_assoc]; rfl
        have hTk := HTok.out 1 k j1 (by have := HJ1.out; omega) (by have := HJ1.out; omega)
        obtain ⟨T, hT⟩ : ∃ T, (s.drop k).take (j1 - k) = T := ⟨_, rfl⟩
        rw [hT] at hTk HE
        clear hre hT
        replace hTk := hid hTk
        have HRh := hid (fun (v8 : Value) (w8 : World) (h : w8.ownsRow w.heap.size 90 3 v8 (D.length + 1) (tcells D ++ tcells [(⟨1, k, T⟩ : Tok)])) => (by rw [tcells_app, List.length_append]; exact h : w8.ownsRow w.heap.size 90 3 v8 (D ++ [(⟨1, k, T⟩ : Tok)]).length (tcells (D ++ [(⟨1, k, T⟩ : Tok)]))))
        have hlD : Hid ((D ++ [(⟨1, k, T⟩ : Tok)]).length ≤ j1) := by show _ ≤ _; rw [List.length_append, List.length_singleton]; have := HJ1.out; omega
        go_wp2_with (first | (go_at_call 50; (with_reducible refine (hTk.out _).mono ?_); rintro _ w5 ⟨rfl, hb5⟩; have HO5 := hid (own_below HO.out hb5); have HB5 := hid (HB.out.trans (hb5.mono hBs)); have hBs5 := HB5.out.size) | (at_builtin; refine wpList_append_own _ rfl (.tmp 67) (.tmp 72) 68 rfl w.heap.size 90 i5 (.agg #[.int .i64 0, .int .i64 0, .string ByteArray.empty]) 3 32 Tryd.underlying68 Ai.out Az0.out Az1.out Az2.out rfl (by decide) _ _ _ rfl (HO5.out.alloc _) ⟨w5.heap.size, 0, none⟩ 1 1 (tcells [⟨1, k, T⟩]) rfl rfl (new_row (show _ = (tcells [⟨1, k, T⟩]).toArray from rfl)) (tcells_one _) (by unfold maxLen; omega) (by omega) (by simp; omega) ?_; intro v8 w8 hown8 hg8 _; have HO8 := hid hown8; have HB8 := hid (Below.grown (HB5.out.alloc hBs5 _) hg8 (by simp; omega) (fun q hq => (HO5.out.lt q hq).1)); clear hown8))
        go_step3
        refine ⟨⟨_, k, j1, _, _, _, _, _, _, _, _, _, _, _, _, _, _, _, _, _, _, _, _, _, _, _, _, _, _, _, _, _, _, _, _, _, _, _, _, _, _, _, _, _, _, _, _, _, _, _, _, _, _, _, _, _, _, _, _, _, _, _, _, _, _, _, _, _, _, _, _, _, _, _, _, _, _, _, _, _, _, _, _, _, _, _, _, _, _, _, _, _, _, _, _, _, _, _, _, _, _, rfl, D ++ [⟨1, k, T⟩], ⟨by have := HJ1.out; omega, by have := HJ1.out; omega, hlD.out, HE.out⟩, HRh.out _ _ HO8.out, HB8.out⟩, ?_⟩
        rw [SpM_eq s _ j1 _ _ rfl, SpM_eq s _ j _ _ rfl]
        have := HJ1.out
        simp only; omega
    | 3, hat =>
      refine ⟨_, rfl, ?_⟩
      obtain ⟨hDk, ⟨hkj, hjm, hin⟩, hq⟩ := hat
      have HQ2 := hid hq
      have HIn := hid hin
      have hjm2 : j < m := by rw [← Hm.out]; exact hjm
      clear hq hin
      obtain ⟨j1, hj1⟩ : ∃ j1, j1 = j + 1 := ⟨_, rfl⟩
      have ew1 : IntKind.i64.wrap ((j : Int) + 1) = (j1 : Int) := by rw [IntKind.wrap_i64, hj1]; omega
      have HJ1 := hid hj1
      have HIn1 : Hid (∀ q, k ≤ q → q < j1 → ∀ c, s[q]? = some c → isNm c = true) := fun q h1 h2 => HIn.out q h1 (by omega)
      clear hj1
      by_cases hlt : j1 < m
      · have te : decide ((j1 : Int) < (m : Int)) = true := decide_eq_true (by omega)
        obtain ⟨y, hy⟩ : ∃ y, s[j1]? = some y := ⟨s[j1]'(by rw [Hm.out]; exact hlt), List.getElem?_eq_getElem _⟩
        have hry := HX.out j1 y hy
        have hSy := hid (HNm.out y)
        cases cy : isNm y with
        | true =>
          have hyP := cy
          rw [cy] at hSy
          have HR2 : Hid (RunAt s isNm k j1) := ⟨by have := HJ1.out; omega, by rw [Hm.out]; exact hlt, fun q h1 h2 c hc => by
            rcases Nat.lt_or_eq_of_le h2 with h3 | rfl
            · exact HIn1.out q h1 h3 c hc
            · rw [hy] at hc; cases hc; exact hyP⟩
          clear cy hy hyP
          go_wp2_with ((go_at_call 51; (with_reducible refine (hSy.out _).mono ?_); rintro _ _ ⟨rfl, rfl⟩))
          go_step3
          refine ⟨⟨_, k, j1, _, _, _, _, _, _, _, _, _, _, _, _, _, _, _, _, _, _, _, _, _, _, _, _, _, _, _, _, _, _, _, _, _, _, _, _, _, _, _, _, _, _, _, _, _, _, _, _, _, _, _, _, _, _, _, _, _, _, _, _, _, _, _, _, _, _, _, _, _, _, _, _, _, _, _, _, _, _, _, _, _, _, _, _, _, _, _, _, _, _, _, _, _, _, _, _, _, _, rfl, D, ⟨hDk, HR2.out, HQ2.out⟩, HO.out, HB.out⟩, ?_⟩
          rw [SpM_eq s _ j1 _ _ rfl, SpM_eq s _ j _ _ rfl]
          have := HJ1.out; have := Hm.out
          simp only; omega
        | false =>
          have hyP := cy
          rw [cy] at hSy
          have hre := run_end (P := isNm) (i := k) (j := j1) (s := s) (by have := HJ1.out; omega) (by rw [Hm.out]; omega) HIn1.out (fun c hc => by rw [hy] at hc; cases hc; exact hyP)
          clear cy hy hyP
          have HE : Hid (scanAt s 0 = ((D ++ [⟨2, k, (s.drop k).take (j1 - k)⟩]) ++ (scanAt s j1).1, (scanAt s j1).2)) := by
            show _ = _
            rw [HQ2.out j1 hre.2, hre.1, List.append_assoc]; rfl
          have hTk := HTok.out 2 k j1 (by have := HJ1.out; omega) (by have := HJ1.out; omega)
          obtain ⟨T, hT⟩ : ∃ T, (s.drop k).take (j1 - k) = T := ⟨_, rfl⟩
          rw [hT] at hTk HE
          clear hre hT
          replace hTk := hid hTk
          have HRh := hid (fun (v8 : Value) (w8 : World) (h : w8.ownsRow w.heap.size 90 3 v8 (D.length + 1) (tcells D ++ tcells [(⟨2, k, T⟩ : Tok)])) => (by rw [tcells_app, List.length_append]; exact h : w8.ownsRow w.heap.size 90 3 v8 (D ++ [(⟨2, k, T⟩ : Tok)]).length (tcells (D ++ [(⟨2, k, T⟩ : Tok)]))))
          have hlD : Hid ((D ++ [(⟨2, k, T⟩ : Tok)]).length ≤ j1) := by show _ ≤ _; rw [List.length_append, List.length_singleton]; have := HJ1.out; omega
          go_wp2_with (first | (go_at_call 51; (with_reducible refine (hSy.out _).mono ?_); rintro _ _ ⟨rfl, rfl⟩) | (go_at_call 50; (with_reducible refine (hTk.out _).mono ?_); rintro _ w5 ⟨rfl, hb5⟩; have HO5 := hid (own_below HO.out hb5); have HB5 := hid (HB.out.trans (hb5.mono hBs)); have hBs5 := HB5.out.size) | (at_builtin; refine wpList_append_own _ rfl (.tmp 86) (.tmp 91) 68 rfl w.heap.size 90 i5 (.agg #[.int .i64 0, .int .i64 0, .string ByteArray.empty]) 3 32 Tryd.underlying68 Ai.out Az0.out Az1.out Az2.out rfl (by decide) _ _ _ rfl (HO5.out.alloc _) ⟨w5.heap.size, 0, none⟩ 1 1 (tcells [⟨2, k, T⟩]) rfl rfl (new_row (show _ = (tcells [⟨2, k, T⟩]).toArray from rfl)) (tcells_one _) (by unfold maxLen; omega) (by omega) (by simp; omega) ?_; intro v8 w8 hown8 hg8 _; have HO8 := hid hown8; have HB8 := hid (Below.grown (HB5.out.alloc hBs5 _) hg8 (by simp; omega) (fun q hq => (HO5.out.lt q hq).1)); clear hown8))
          go_step3
          refine ⟨⟨_, k, j1, _, _, _, _, _, _, _, _, _, _, _, _, _, _, _, _, _, _, _, _, _, _, _, _, _, _, _, _, _, _, _, _, _, _, _, _, _, _, _, _, _, _, _, _, _, _, _, _, _, _, _, _, _, _, _, _, _, _, _, _, _, _, _, _, _, _, _, _, _, _, _, _, _, _, _, _, _, _, _, _, _, _, _, _, _, _, _, _, _, _, _, _, _, _, _, _, _, _, rfl, D ++ [⟨2, k, T⟩], ⟨by have := HJ1.out; omega, by have := HJ1.out; omega, hlD.out, HE.out⟩, HRh.out _ _ HO8.out, HB8.out⟩, ?_⟩
          rw [SpM_eq s _ j1 _ _ rfl, SpM_eq s _ j _ _ rfl]
          have := HJ1.out
          simp only; omega
      · have te : decide ((j1 : Int) < (m : Int)) = false := decide_eq_false (by omega)
        have hre := run_end (P := isNm) (i := k) (j := j1) (s := s) (by have := HJ1.out; omega) (by rw [Hm.out]; have := HJ1.out; omega) HIn1.out (fun c hc => by rw [List.getElem?_eq_none (by rw [Hm.out]; omega)] at hc; cases hc)
        have HE : Hid (scanAt s 0 = ((D ++ [⟨2, k, (s.drop k).take (j1 - k)⟩]) ++ (scanAt s j1).1, (scanAt s j1).2)) := by
          show _ = _
          rw [HQ2.out j1 hre.2, hre.1, List.append_assoc]; rfl
        have hTk := HTok.out 2 k j1 (by have := HJ1.out; omega) (by have := HJ1.out; omega)
        obtain ⟨T, hT⟩ : ∃ T, (s.drop k).take (j1 - k) = T := ⟨_, rfl⟩
        rw [hT] at hTk HE
        clear hre hT
        replace hTk := hid hTk
        have HRh := hid (fun (v8 : Value) (w8 : World) (h : w8.ownsRow w.heap.size 90 3 v8 (D.length + 1) (tcells D ++ tcells [(⟨2, k, T⟩ : Tok)])) => (by rw [tcells_app, List.length_append]; exact h : w8.ownsRow w.heap.size 90 3 v8 (D ++ [(⟨2, k, T⟩ : Tok)]).length (tcells (D ++ [(⟨2, k, T⟩ : Tok)]))))
        have hlD : Hid ((D ++ [(⟨2, k, T⟩ : Tok)]).length ≤ j1) := by show _ ≤ _; rw [List.length_append, List.length_singleton]; have := HJ1.out; omega
        go_wp2_with (first | (go_at_call 50; (with_reducible refine (hTk.out _).mono ?_); rintro _ w5 ⟨rfl, hb5⟩; have HO5 := hid (own_below HO.out hb5); have HB5 := hid (HB.out.trans (hb5.mono hBs)); have hBs5 := HB5.out.size) | (at_builtin; refine wpList_append_own _ rfl (.tmp 86) (.tmp 91) 68 rfl w.heap.size 90 i5 (.agg #[.int .i64 0, .int .i64 0, .string ByteArray.empty]) 3 32 Tryd.underlying68 Ai.out Az0.out Az1.out Az2.out rfl (by decide) _ _ _ rfl (HO5.out.alloc _) ⟨w5.heap.size, 0, none⟩ 1 1 (tcells [⟨2, k, T⟩]) rfl rfl (new_row (show _ = (tcells [⟨2, k, T⟩]).toArray from rfl)) (tcells_one _) (by unfold maxLen; omega) (by omega) (by simp; omega) ?_; intro v8 w8 hown8 hg8 _; have HO8 := hid hown8; have HB8 := hid (Below.grown (HB5.out.alloc hBs5 _) hg8 (by simp; omega) (fun q hq => (HO5.out.lt q hq).1)); clear hown8))
        go_step3
        refine ⟨⟨_, k, j1, _, _, _, _, _, _, _, _, _, _, _, _, _, _, _, _, _, _, _, _, _, _, _, _, _, _, _, _, _, _, _, _, _, _, _, _, _, _, _, _, _, _, _, _, _, _, _, _, _, _, _, _, _, _, _, _, _, _, _, _, _, _, _, _, _, _, _, _, _, _, _, _, _, _, _, _, _, _, _, _, _, _, _, _, _, _, _, _, _, _, _, _, _, _, _, _, _, _, rfl, D ++ [⟨2, k, T⟩], ⟨by have := HJ1.out; omega, by have := HJ1.out; omega, hlD.out, HE.out⟩, HRh.out _ _ HO8.out, HB8.out⟩, ?_⟩
        rw [SpM_eq s _ j1 _ _ rfl, SpM_eq s _ j _ _ rfl]
        have := HJ1.out
        simp only; omega
    | 4, hat =>
      refine ⟨_, rfl, ?_⟩
      obtain ⟨hDk, rfl, h59, hq⟩ := hat
      have HQ2 := hid hq
      have H59 := hid h59
      have hjm : k < s.length := (List.getElem?_eq_some_iff.1 h59).1
      have hjm2 : k < m := by rw [← Hm.out]; exact hjm
      clear hq h59
      obtain ⟨j1, hj1⟩ : ∃ j1, j1 = k + 1 := ⟨_, rfl⟩
      have ew1 : IntKind.i64.wrap ((k : Int) + 1) = (j1 : Int) := by rw [IntKind.wrap_i64, hj1]; omega
      have HJ1 := hid hj1
      clear hj1
      have HE : Hid (scanAt s 0 = ((D ++ [⟨3, k, [59]⟩]) ++ (scanAt s j1).1, (scanAt s j1).2)) := by
        show _ = _
        rw [HJ1.out, HQ2.out, List.append_assoc]; rfl
      have hTk := HTok.out 3 k j1 (by have := HJ1.out; omega) (by have := HJ1.out; omega)
      rw [show (s.drop k).take (j1 - k) = [59] from by rw [show j1 - k = 1 by have := HJ1.out; omega]; exact one_at H59.out] at hTk
      replace hTk := hid hTk
      have HRh := hid (fun (v8 : Value) (w8 : World) (h : w8.ownsRow w.heap.size 90 3 v8 (D.length + 1) (tcells D ++ tcells [(⟨3, k, [59]⟩ : Tok)])) => (by rw [tcells_app, List.length_append]; exact h : w8.ownsRow w.heap.size 90 3 v8 (D ++ [(⟨3, k, [59]⟩ : Tok)]).length (tcells (D ++ [(⟨3, k, [59]⟩ : Tok)]))))
      have hlD : Hid ((D ++ [(⟨3, k, [59]⟩ : Tok)]).length ≤ j1) := by show _ ≤ _; rw [List.length_append, List.length_singleton]; have := HJ1.out; omega
      go_wp2_with (first | (go_at_call 50; (with_reducible refine (hTk.out _).mono ?_); rintro _ w5 ⟨rfl, hb5⟩; have HO5 := hid (own_below HO.out hb5); have HB5 := hid (HB.out.trans (hb5.mono hBs)); have hBs5 := HB5.out.size) | (at_builtin; refine wpList_append_own _ rfl (.tmp 95) (.tmp 100) 68 rfl w.heap.size 90 i5 (.agg #[.int .i64 0, .int .i64 0, .string ByteArray.empty]) 3 32 Tryd.underlying68 Ai.out Az0.out Az1.out Az2.out rfl (by decide) _ _ _ rfl (HO5.out.alloc _) ⟨w5.heap.size, 0, none⟩ 1 1 (tcells [⟨3, k, [59]⟩]) rfl rfl (new_row (show _ = (tcells [⟨3, k, [59]⟩]).toArray from rfl)) (tcells_one _) (by unfold maxLen; omega) (by omega) (by simp; omega) ?_; intro v8 w8 hown8 hg8 _; have HO8 := hid hown8; have HB8 := hid (Below.grown (HB5.out.alloc hBs5 _) hg8 (by simp; omega) (fun q hq => (HO5.out.lt q hq).1)); clear hown8))
      go_step3
      refine ⟨⟨_, k, j1, _, _, _, _, _, _, _, _, _, _, _, _, _, _, _, _, _, _, _, _, _, _, _, _, _, _, _, _, _, _, _, _, _, _, _, _, _, _, _, _, _, _, _, _, _, _, _, _, _, _, _, _, _, _, _, _, _, _, _, _, _, _, _, _, _, _, _, _, _, _, _, _, _, _, _, _, _, _, _, _, _, _, _, _, _, _, _, _, _, _, _, _, _, _, _, _, _, _, rfl, D ++ [⟨3, k, [59]⟩], ⟨by have := HJ1.out; omega, by have := HJ1.out; omega, hlD.out, HE.out⟩, HRh.out _ _ HO8.out, HB8.out⟩, ?_⟩
      rw [SpM_eq s _ j1 _ _ rfl, SpM_eq s _ k _ _ rfl]
      have := HJ1.out
      simp only; omega
    | n + 5, hat => exact hat.elim
theorem landSplit_long (s : List UInt8) (w : World) (h : 10000 < s.length) (h2 : s.length ≤ 9223372036854775807) : Calls Tryd.prog 33 #[.string (txt s)] w (SplitAns (splitS s) w) := by
  have Q : splitS s = ([], 0, 6) := by unfold splitS; rw [if_pos h]
  rw [Q]
  have hZ : (txt s).size = s.length := rfl
  have t1 : decide ((10000 : Int) < (s.length : Int)) = true := decide_eq_true (by omega)
  clear Q h
  go_enter Tryd.func33, Tryd.ntmps33
  go_wp2_with fail
  refine wp_scope_labels (fun _ _ _ => False) (fun _ _ _ => 0) (fun _ => ?_) (fun _ _ _ h => h.elim)
  go_wp2_with fail
  rw [jumps_ret]
  (try simp only [Exit.inBlock, Exit.then])
  refine bodyPost_ret (results_tmp3 rfl _ _ _) rfl ?_
  exact ⟨_, rfl, World.ownsRow_nil _ _ _ _, Below.refl _ _⟩
end Go.Proofs.YtcmkcloapenpnaaDoor
