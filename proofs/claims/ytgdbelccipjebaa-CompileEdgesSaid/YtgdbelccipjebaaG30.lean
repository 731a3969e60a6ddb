/- Merged: CqM. -/
import Derived.Test.YtgdbelccipjebaaG29
/- CompileDeeper. -/
namespace Go.Proofs.Ytgdbelccipjebaa
open Go.RowKit
set_option maxHeartbeats 6400000
set_option maxRecDepth 100000
theorem compS_up {N : Nat} {l : List Lnk} {x : Wnt} {dn : List Bool} {k i : Nat} (h : (compS N l x dn (k : Int)).2 = 0) (hk : k ≤ i) (hi : i ≤ 10) : compS N l x dn (i : Int) = compS N l x dn (k : Int) := by
  unfold compS at h ⊢
  by_cases hc : (costS N l x dn).2 ≠ 0
  · rw [if_pos hc, if_pos hc]
  · rw [if_neg hc] at h ⊢
    rw [if_neg hc]
    rw [cutD_nat hi, cutD_nat (by omega)]
    rw [cutD_nat (by omega)] at h
    cases hl : leastS N l x (prunedS N l x dn) k (startS x) with
    | none => rw [hl] at h; exact absurd (show (9 : Int) = 0 from h) (by decide)
    | some n => rw [leastS_up hl hk]
theorem compS_first {N : Nat} {l : List Lnk} {x : Wnt} {dn : List Bool} {i : Nat} (h : (compS N l x dn (i : Int)).2 = 0) (hi : i ≤ 10) (hf : ∀ k : Nat, k < i → (compS N l x dn (k : Int)).2 ≠ 0) : (compS N l x dn (i : Int)).1.length = i := by
  have hc : ¬ (costS N l x dn).2 ≠ 0 := fun hc => by
    rw [compS_bad hc] at h
    exact hc h
  have hq : ∀ d : Nat, compS N l x dn (d : Int) = match leastS N l x (prunedS N l x dn) (cutD d) (startS x) with
    | none => ([], 9)
    | some n => (pathS N l x (prunedS N l x dn) n (startS x), 0) := fun d => by
    unfold compS
    rw [if_neg hc]
    cases leastS N l x (prunedS N l x dn) (cutD d) (startS x) <;> rfl
  rw [hq i, cutD_nat hi] at h ⊢
  cases hl : leastS N l x (prunedS N l x dn) i (startS x) with
  | none => rw [hl] at h; exact absurd (show (9 : Int) = 0 from h) (by decide)
  | some n =>
    obtain ⟨h1, h2, h3⟩ := leastS_some hl
    show (pathS N l x (prunedS N l x dn) n (startS x)).length = i
    rw [pathS_len h2]
    rcases Nat.lt_or_ge n i with h4 | h4
    · refine absurd ?_ (hf n h4)
      rw [hq n, cutD_nat (by omega), leastS_is (Nat.le_refl n) h2 h3]
    · omega
/-- What CompileDeeper's rounds keep. -/
def DpSt (N : Nat) (l : List Lnk) (x : Wnt) (dn : List Bool) (wr : World) (i : Nat) (hv fv : Value) : Prop :=
  (hv = .bool false ∧ fv = .slice none 0 0 ∧ ∀ k : Nat, k < i → (compS N l x dn (k : Int)).2 ≠ 0) ∨
  (∃ (k : Nat) (B : Option Addr) (cB : Nat), k < i ∧ hv = .bool true ∧ fv = .slice B (compS N l x dn (k : Int)).1.length cB ∧ (compS N l x dn (k : Int)).2 = 0 ∧ RSeg wr wr.heap.size B (compS N l x dn (k : Int)).1.length (compS N l x dn (k : Int)).1)
theorem compDeeper_in {TabAt : World → Addr → Nat → List Lnk → Prop} (hN : NewOps TabAt 16) (hO : CompOps TabAt 11) (nd : Int) (A : Option Addr) (n c : Nat) (l : List Lnk) (x : Wnt) (y : WSl) (Ad : Option Addr) (n' c' : Nat) (dn : List Bool) (w : World) (hg : GAny w nd A n c l) (hs : smallB nd n = true) (hw : WArg w x y) (hf : fewB y = true) (hd : DArg w Ad n' c' dn) :
    Calls Try.prog 6 #[.agg #[.int .i64 nd, .slice A n c], .agg #[.int .i64 x.frm, .int .i64 x.too, .int .i64 x.bnd, .slice y.av y.nv y.cv, .slice y.an y.nn y.cn, .slice y.al y.nl y.cl, .slice y.ac y.nc y.cc], .slice Ad n' c'] w fun e w' => e = .returned (.bool true) ∧ Below w.heap.size w w' := by
  have hS := Held2.start w nd A n c x y
  have hn16 : nd ≤ 10 ∧ n ≤ 16 := by unfold smallB at hs; simp only [Bool.and_eq_true, decide_eq_true_eq] at hs; exact hs
  have hl4 : y.nv ≤ 20 ∧ y.nn ≤ 60 ∧ y.nl ≤ 60 ∧ y.nc ≤ 60 := by
    unfold fewB at hf
    simp only [Bool.and_eq_true, decide_eq_true_eq] at hf
    omega
  obtain ⟨l1, l2, l3, l4⟩ := hl4
  obtain ⟨n1, n2⟩ := hn16
  have hll : l.length = n := hg.row.1
  have t2 : decide ((200 : Int) < (n' : Int)) = false := by have := hd.len; simp; omega
  have HA := hid (fun (w' : World) (h : Held2 w nd A n c x y w') => h.calls (alive17 hN hO w'))
  have HSm := hid (fun (w' : World) (h : Held2 w nd A n c x y w') => h.calls (small_any nd A n c w'))
  have HFw := hid (fun (w' : World) (h : Held2 w nd A n c x y w') => h.calls (few_any x y w'))
  have HNum := hid cnum_any
  rw [hs] at HSm
  rw [hf] at HFw
  by_cases hck : (checkS nd l).2 = 0
  · obtain ⟨N, rfl⟩ : ∃ N : Nat, nd = (N : Int) := ⟨nd.toNat, by have := checkS_ok hck; omega⟩
    have HT := hid (show ∀ W, Held2 w (N : Int) A n c x y W → Calls Try.prog 10 #[.agg #[.int .i64 (N : Int), .slice A n c]] W fun e w' => ∃ (p pr : Addr), e = .returned (.tuple #[.pointer (some p), .pointer (some pr), .bool true]) ∧ TabAt w' p N l ∧ Held2 w (N : Int) A n c x y w' from fun W hh => by
      refine (tabs_any hN (N : Int) A n c l W (hg.on hh.1)).mono ?_
      rintro e w' ⟨hb, h1 | h1⟩
      · obtain ⟨_, N', p, pr, h2, h3, h4, _⟩ := h1
        obtain rfl : N' = N := by omega
        exact ⟨p, pr, h3, h4, hh.next hb⟩
      · exact (h1.1 hck).elim)
    have HL := hid (show ∀ (W : World) (p : Addr) (i : Nat), i ≤ 10 → TabAt W p N l → Held2 w (N : Int) A n c x y W → Calls Try.prog 11 #[.pointer (some p), .agg #[.int .i64 x.frm, .int .i64 x.too, .int .i64 x.bnd, .slice y.av y.nv y.cv, .slice y.an y.nn y.cn, .slice y.al y.nl y.cl, .slice y.ac y.nc y.cc], .slice Ad n' c', .int .i64 (i : Int)] W fun e w' => (∃ B c, e = .returned (.tuple #[.slice B (compS N l x dn (i : Int)).1.length c, .int .i64 (compS N l x dn (i : Int)).2]) ∧ RSeg w' w'.heap.size B (compS N l x dn (i : Int)).1.length (compS N l x dn (i : Int)).1) ∧ Held2 w (N : Int) A n c x y w' ∧ Below W.heap.size W w' from fun W p i hi ht hh => by
      refine (hO W p N l x y Ad n' c' dn i ht (gok_of hck) (by omega) (by omega) (hw.on hh.1) (hd.on hh.1) (by omega) (by omega) (by omega) (by omega) ⟨by omega, by omega⟩).mono ?_
      rintro e w' ⟨B, c2, h1, h3, h2⟩
      exact ⟨⟨B, c2, h1, h3⟩, hh.next h2, h2⟩)
    have HK := hid hN.1
    have HSg := hid sameSegs_any
    have HUp := hid (fun (k i : Nat) (h : (compS N l x dn (k : Int)).2 = 0) (hk : k ≤ i) (hi : i ≤ 10) => compS_up h hk hi)
    have HFi := hid (fun (i : Nat) (h : (compS N l x dn (i : Int)).2 = 0) (hi : i ≤ 10) (hf : ∀ k : Nat, k < i → (compS N l x dn (k : Int)).2 ≠ 0) => compS_first h hi hf)
    have HLn := hid (fun (i : Nat) => compS_len (N := N) (l := l) (x := x) (dn := dn) (d := (i : Int)))
    clear hN hO hg hs hw hf hd hck hll
    go_enter Try.func6, Try.ntmps6
    go_wp2_with (first
      | (go_at_call 7; (with_reducible refine (HA.out _ hS).mono ?_); rintro e' w1 ⟨rfl, h1⟩; obtain ⟨g0, g1⟩ := h1.g; obtain ⟨g2, g3, g4, g5, g6, g7, g8⟩ := h1.v)
      | (go_at_call 8; (with_reducible refine (HSm.out _ h1).mono ?_); rintro e' w2 ⟨rfl, h2⟩; obtain ⟨q0, q1⟩ := h2.g; obtain ⟨q2, q3, q4, q5, q6, q7, q8⟩ := h2.v)
      | (go_at_call 9; (with_reducible refine (HFw.out _ h2).mono ?_); rintro e' w3 ⟨rfl, h3⟩; obtain ⟨r0, r1⟩ := h3.g; obtain ⟨r2, r3, r4, r5, r6, r7, r8⟩ := h3.v)
      | (go_at_call 10; (with_reducible refine (HT.out _ h3).mono ?_); rintro e' w4 ⟨p, pr, rfl, ht4, h4⟩; have HT4 := hid ht4; have H4 := hid h4; clear ht4 g0 g1 g2 g3 g4 g5 g6 g7 g8 q0 q1 q2 q3 q4 q5 q6 q7 q8 r0 r1 r2 r3 r4 r5 r6 r7 r8))
    go_loopw [11, 12, 13] (fun hv fv dv wr => ∃ i : Nat, i ≤ 11 ∧ dv = .int .i64 (i : Int) ∧ Hid (Held2 w (N : Int) A n c x y wr) ∧ Hid (TabAt wr p N l) ∧ Hid (DpSt N l x dn wr i hv fv)) (fun _ _ dv _ => 11 - (intOf dv).toNat)
    case atStart => exact ⟨0, by omega, rfl, H4, HT4, hid (.inl ⟨rfl, rfl, fun k hk => by omega⟩)⟩
    case round =>
      obtain ⟨i, hi, rfl, HH, HTr, HD⟩ := hrel
      by_cases hlt : i ≤ 10
      · have d1 : decide ((i : Int) ≤ 10) = true := decide_eq_true (by omega)
        have ewi : IntKind.i64.wrap ((i : Int) + 1) = (i : Int) + 1 := by rw [IntKind.wrap_i64]; omega
        obtain ⟨g0, g1⟩ := HH.out.g
        obtain ⟨g2, g3, g4, g5, g6, g7, g8⟩ := HH.out.v
        have HL1 := hid (HL.out _ p i hlt HTr.out HH.out)
        rcases HD.out with ⟨rfl, rfl, hno⟩ | ⟨k, B, cB, hk, rfl, rfl, hk0, hrs⟩
        · by_cases hz : (compS N l x dn (i : Int)).2 = 0
          · have hlen := HFi.out i hz hlt hno
            have HNew := hid (show ∀ wr B cB, RSeg wr wr.heap.size B (compS N l x dn (i : Int)).1.length (compS N l x dn (i : Int)).1 → DpSt N l x dn wr (i + 1) (.bool true) (.slice B i cB) from fun wr B cB h => by
              refine .inr ⟨i, B, cB, by omega, rfl, ?_, hz, h⟩
              rw [hlen])
            rw [hz] at HL1
            have k1 : ((0 : Int) == 0) = true := by decide
            have k2 : ((i : Int) != (i : Int)) = false := by simp
            generalize compS N l x dn (i : Int) = R at *
            rw [hlen] at HL1 HNew
            clear hno hz hlen HD
            go_wp2_with (first
              | (go_at_call 11; (with_reducible refine HL1.out.mono ?_); rintro e' w5 ⟨⟨B5, c5, rfl, hs5⟩, h5, hb5⟩; have HS5 := hid hs5; have HB5 := hid hb5; have HH5 := hid h5; clear hs5 hb5 h5)
              | (go_at_call 14; (with_reducible refine (HNum.out _ _).mono ?_); rintro _ _ ⟨rfl, rfl⟩))
            go_roundw
            case rel => exact ⟨i + 1, by omega, by go_num, HH5, hid (HK.out _ _ _ _ _ HTr.out HB5.out), hid (HNew.out _ _ _ HS5.out)⟩
            case measure => simp [intOf]; omega
          · have HNew := hid (show ∀ wr, DpSt N l x dn wr (i + 1) (.bool false) (.slice none 0 0) from fun wr => by
              refine .inl ⟨rfl, rfl, fun k hk => ?_⟩
              rcases Nat.lt_or_ge k i with h | h
              · exact hno k h
              · obtain rfl : k = i := by omega
                exact hz)
            have k1 : ((compS N l x dn (i : Int)).2 == 0) = false := by simpa using hz
            generalize compS N l x dn (i : Int) = R at *
            obtain ⟨R1, R2⟩ := R
            dsimp only at HL1 k1
            clear hno hz HD
            go_wp2_with (first
              | (go_at_call 11; (with_reducible refine HL1.out.mono ?_); rintro e' w5 ⟨⟨B5, c5, rfl, hs5⟩, h5, hb5⟩; have HB5 := hid hb5; have HH5 := hid h5; clear hs5 hb5 h5)
              | (go_at_call 14; (with_reducible refine (HNum.out _ _).mono ?_); rintro _ _ ⟨rfl, rfl⟩))
            go_roundw
            case rel => exact ⟨i + 1, by omega, by go_num, HH5, hid (HK.out _ _ _ _ _ HTr.out HB5.out), hid (HNew.out _)⟩
            case measure => simp [intOf]; omega
        · have he := HUp.out k i hk0 (by omega) hlt
          rw [he] at HL1
          have hLn := HLn.out k
          have HNew := hid (show ∀ wr, RSeg wr wr.heap.size B (compS N l x dn (k : Int)).1.length (compS N l x dn (k : Int)).1 → DpSt N l x dn wr (i + 1) (.bool true) (.slice B (compS N l x dn (k : Int)).1.length cB) from fun wr h => .inr ⟨k, B, cB, by omega, rfl, rfl, hk0, h⟩)
          rw [hk0] at HL1
          have HRs := hid hrs
          have k1 : ((0 : Int) == 0) = true := by decide
          clear he hk0 HD hrs
          generalize compS N l x dn (k : Int) = R at *
          obtain ⟨R1, R2⟩ := R
          dsimp only at HL1 HNew HRs hLn
          go_wp2_with (first
            | (go_at_call 11; (with_reducible refine HL1.out.mono ?_); rintro e' w5 ⟨⟨B5, c5, rfl, hs5⟩, h5, hb5⟩; have HS5 := hid hs5; have HB5 := hid hb5; have HH5 := hid h5; have HR5 := hid (HRs.out.on hb5); clear hs5 hb5 h5)
            | (go_at_call 14; (with_reducible refine (HNum.out _ _).mono ?_); rintro _ _ ⟨rfl, rfl⟩)
            | (go_at_call 13; (with_reducible refine (HSg.out _ _ _ _ _ _ _ HS5.out HR5.out (by omega)).mono ?_); rintro e' w6 ⟨rfl, hb6⟩; have HB6 := hid hb6; clear hb6))
          go_roundw
          case rel => exact ⟨i + 1, by omega, by go_num, hid (HH5.out.next HB6.out), hid (HK.out _ _ _ _ _ (HK.out _ _ _ _ _ HTr.out HB5.out) HB6.out), hid (HNew.out _ (HR5.out.on HB6.out))⟩
          case measure => simp [intOf]; omega
      · have d1 : decide ((i : Int) ≤ 10) = false := decide_eq_false (by omega)
        go_wp2_with fail
        go_ret
        exact ⟨rfl, HH.out.1⟩
  · have HT := hid (show ∀ W, Held2 w nd A n c x y W → Calls Try.prog 10 #[.agg #[.int .i64 nd, .slice A n c]] W fun e w' => (∃ v1 v2, e = .returned (.tuple #[v1, v2, .bool false])) ∧ Held2 w nd A n c x y w' from fun W hh => by
      refine (tabs_any hN nd A n c l W (hg.on hh.1)).mono ?_
      rintro e w' ⟨hb, h1 | h1⟩
      · exact (hck h1.1).elim
      · exact ⟨h1.2, hh.next hb⟩)
    clear hN hO hg hs hw hf hd hck hll
    go_enter Try.func6, Try.ntmps6
    go_wp2_with (first
      | (go_at_call 7; (with_reducible refine (HA.out _ hS).mono ?_); rintro e' w1 ⟨rfl, h1⟩; obtain ⟨g0, g1⟩ := h1.g; obtain ⟨g2, g3, g4, g5, g6, g7, g8⟩ := h1.v)
      | (go_at_call 8; (with_reducible refine (HSm.out _ h1).mono ?_); rintro e' w2 ⟨rfl, h2⟩; obtain ⟨q0, q1⟩ := h2.g; obtain ⟨q2, q3, q4, q5, q6, q7, q8⟩ := h2.v)
      | (go_at_call 9; (with_reducible refine (HFw.out _ h2).mono ?_); rintro e' w3 ⟨rfl, h3⟩; obtain ⟨r0, r1⟩ := h3.g; obtain ⟨r2, r3, r4, r5, r6, r7, r8⟩ := h3.v)
      | (go_at_call 10; (with_reducible refine (HT.out _ h3).mono ?_); rintro e' w4 ⟨⟨v1, v2, rfl⟩, h4⟩; obtain ⟨s0, s1⟩ := h4.g; obtain ⟨s2, s3, s4, s5, s6, s7, s8⟩ := h4.v))
    go_ret
    exact ⟨rfl, h4.1⟩
theorem compDeeper_any {TabAt : World → Addr → Nat → List Lnk → Prop} (hN : NewOps TabAt 16) (hO : CompOps TabAt 11) (nd : Int) (A : Option Addr) (n c : Nat) (l : List Lnk) (x : Wnt) (y : WSl) (Ad : Option Addr) (n' c' : Nat) (dn : List Bool) (w : World) (hg : GAny w nd A n c l) (hw : WArg w x y) (hd : RBl w w.heap.size Ad n' dn) (hc' : n' ≤ c') (hA' : Ad = none → n' = 0 ∧ c' = 0) :
    Calls Try.prog 6 #[.agg #[.int .i64 nd, .slice A n c], .agg #[.int .i64 x.frm, .int .i64 x.too, .int .i64 x.bnd, .slice y.av y.nv y.cv, .slice y.an y.nn y.cn, .slice y.al y.nl y.cl, .slice y.ac y.nc y.cc], .slice Ad n' c'] w fun e w' => e = .returned (.bool true) ∧ Below w.heap.size w w' := by
  cases hs : smallB nd n with
  | false => exact compDeeper_out hN hO nd A n c x y Ad n' c' w (.inl hs)
  | true =>
    cases hf : fewB y with
    | false => exact compDeeper_out hN hO nd A n c x y Ad n' c' w (.inr (.inl hf))
    | true =>
      by_cases h : 200 < n'
      · exact compDeeper_out hN hO nd A n c x y Ad n' c' w (.inr (.inr h))
      · exact compDeeper_in hN hO nd A n c l x y Ad n' c' dn w hg hs hw hf ⟨hd, by omega, hc', hA'⟩
end Go.Proofs.Ytgdbelccipjebaa
