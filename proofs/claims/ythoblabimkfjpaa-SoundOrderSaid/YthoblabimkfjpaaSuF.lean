/- slices.symMergeCmpFunc at rules: by halves; whole. -/
import Derived.Test.YthoblabimkfjpaaSuE
import Derived.Deep.DeepCutAuto
namespace Go.Proofs.Ythoblabimkfjpaa
open Go.RowKit Go.Sort Go.Proofs
set_option maxHeartbeats 12800000
set_option maxRecDepth 1000000
section
variable {α : Type} [Inhabited α]
variable {enc : α → List Value} {k : Nat} {w : World} {blk off : Nat} {cf : α → α → Int} {pr : α → Int} {tg : α → Nat}
/-- What the merge of two sorted parts leaves. -/
def SymOk (enc : α → List Value) (k blk off : Nat) (pr : α → Int) (tg : α → Nat) (g : Nat) (cb : Array Value) (cap sz a m b : Nat) : Prop :=
  ∀ (d : Array α) (w : World), d.size = sz → HoldsK enc k w blk off d → blk < w.heap.size → SoT pr tg d a m → SoT pr tg d m b → Sep tg d a m b →
    Calls Try.prog 60 #[.slice (some ⟨blk, off, none⟩) sz cap, .int .i64 a, .int .i64 m, .int .i64 b, .func (.func g) #[] cb] w fun e w' =>
      e = .returned (.tuple #[]) ∧ ∃ d' : Array α, Srt enc k w blk off d' w' ∧ PermIn a b d d' ∧ SoT pr tg d' a b
theorem rotI_id {s m e t : Nat} (h : ¬(s < m ∧ m < e)) (h1 : s ≤ m) (h2 : m ≤ e) : rotI s m e t = t := by
  unfold rotI
  repeat' split
  all_goals omega
/-- What lies behind the rotation. -/
def Rotd (enc : α → List Value) (k : Nat) (w : World) (blk off : Nat) (d : Array α) (a b i m e : Nat) (d1 : Array α) (W : World) : Prop := d1.size = d.size ∧ Srt enc k w blk off d1 W ∧ (∀ t, d1[t]! = d[rotI i m e t]!) ∧ PermIn a b d d1
/-- What lies behind the left half's merge. -/
def Lftd (enc : α → List Value) (k : Nat) (w : World) (blk off : Nat) (d : Array α) (a mid : Nat) (pr : α → Int) (tg : α → Nat) (d1 d2 : Array α) (W : World) : Prop := d2.size = d.size ∧ Srt enc k w blk off d2 W ∧ PermIn a mid d1 d2 ∧ SoT pr tg d2 a mid
/-- The halves' own part: what is left when the search has told where to cut. -/
theorem sym_gen (E : Elt enc k) (g : Nat) (cb : Array Value) (C : CmpA g cb enc cf pr) (cap a m b : Nat) (d : Array α) (w : World) (hH : HoldsK enc k w blk off d) (hblk : blk < w.heap.size) (ham : a + 1 < m) (hmb : m + 1 < b) (hb : b ≤ d.size) (hsz : d.size < 4611686018427387904)
    (h1 : SoT pr tg d a m) (h2 : SoT pr tg d m b) (h3 : Sep tg d a m b)
    (IH : ∀ a' m' b', a' < m' → m' < b' → b' ≤ d.size → b' - a' < b - a → SymOk enc k blk off pr tg g cb cap d.size a' m' b') :
    Calls Try.prog 60 #[.slice (some ⟨blk, off, none⟩) d.size cap, .int .i64 a, .int .i64 m, .int .i64 b, .func (.func g) #[] cb] w fun e w' =>
      e = .returned (.tuple #[]) ∧ ∃ d' : Array α, Srt enc k w blk off d' w' ∧ PermIn a b d d' ∧ SoT pr tg d' a b := by
  have mixed : Try.prog.follows .mixedOrders = true := by kernel_rfl
  have HE := hid E
  have aE := E.ag
  have zE := E.sz
  have HH := hid hH
  have HS := hid (Srt.start hH)
  have HC := hid C
  have eg := C.eg
  have H1 := hid h1
  have H2 := hid h2
  have H3 := hid h3
  have HI := hid IH
  obtain ⟨mid, hmid⟩ : ∃ mid : Nat, mid = (a + b) / 2 := ⟨_, rfl⟩
  obtain ⟨lo, hlo⟩ : ∃ lo : Nat, lo = if m > mid then mid + m - b else a := ⟨_, rfl⟩
  obtain ⟨hi, hhi⟩ : ∃ hi : Nat, hi = if m > mid then mid else m := ⟨_, rfl⟩
  have hlb : a ≤ lo ∧ mid + m ≤ lo + b ∧ lo ≤ hi ∧ hi ≤ m ∧ hi ≤ mid ∧ (lo = a ∨ lo + b = mid + m) ∧ (hi = m ∨ hi = mid) := by
    rw [hlo, hhi]; split <;> omega
  have mono : ∀ c c', lo ≤ c → c ≤ c' → c' < hi → ltP pr d[mid + m - 1 - c']! d[c']! = false → ltP pr d[mid + m - 1 - c]! d[c]! = false := by
    intro c c' hc hcc hcb h
    by_cases he : c = c'
    · rw [he]; exact h
    · have k1 : BfT pr tg d[c']! d[mid + m - 1 - c']! := bef_of_not (h3 c' _ (by omega) (by omega) (by omega) (by omega)) h
      have k2 : BfT pr tg d[c]! d[mid + m - 1 - c]! := ((h1 c c' (by omega) (by omega) (by omega)).trans k1).trans (h2 _ _ (by omega) (by omega) (by omega))
      cases hv : ltP pr d[mid + m - 1 - c]! d[c]! with
      | false => rfl
      | true => exact (k2.irr (bef_of_lt hv)).elim
  have MO := hid mono
  have t00 : ((m : Int) - (a : Int) == 1) = false := by simp; omega
  have t01 : ((b : Int) - (m : Int) == 1) = false := by simp; omega
  have hmz : ((a : Int) + (b : Int)) / 2 = (mid : Int) := by omega
  have HMZ := hid hmid
  have hm0 : a < mid := by omega
  have hm1 : mid < b := by omega
  have HLO := hid hlo
  have HHI := hid hhi
  clear hH E C h1 h2 h3 IH mono hmid
  go_enter Try.func60, Try.ntmps60
  go_upto_if 140 with fail
  go_cut [20, 21] (fun s r wx => s = .int .i64 lo ∧ r = .int .i64 hi ∧ w = wx)
  case first =>
    by_cases hgt : mid < m
    · have t2 : decide ((mid : Int) < (m : Int)) = true := decide_eq_true (by omega)
      have hl : lo = mid + m - b := by rw [HLO.out, if_pos hgt]
      have hh : hi = mid := by rw [HHI.out, if_pos hgt]
      go_wp2_with fail
      go_meet
      exact ⟨by congr 1; omega, by rw [hh], rfl⟩
    · have t2 : decide ((mid : Int) < (m : Int)) = false := decide_eq_false (by omega)
      have hl : lo = a := by rw [HLO.out, if_neg hgt]
      have hh : hi = m := by rw [HHI.out, if_neg hgt]
      go_wp2_with fail
      go_meet
      exact ⟨by rw [hl], by rw [hh], rfl⟩
  case rest =>
    obtain ⟨rfl, rfl, rfl⟩ := hcut
    go_wp2_with fail
    go_loopw [20, 21] (fun vi vj wr => ∃ (i j : Nat), vi = .int .i64 i ∧ vj = .int .i64 j ∧ lo ≤ i ∧ i ≤ j ∧ j ≤ hi ∧ Hid (Srt enc k w blk off d wr) ∧ Hid (∀ c, lo ≤ c → c < i → ltP pr d[mid + m - 1 - c]! d[c]! = false) ∧ Hid (∀ c, j ≤ c → c < hi → ltP pr d[mid + m - 1 - c]! d[c]! = true)) (fun vi vj _ => (intOf vj).toNat - (intOf vi).toNat)
    case atStart => exact ⟨lo, hi, rfl, rfl, Nat.le_refl _, hlb.2.2.1, Nat.le_refl _, HS, fun c _ _ => by omega, fun c _ _ => by omega⟩
    case round =>
      obtain ⟨i, j, rfl, rfl, hi1, hij, hjb, HW, HL, HR⟩ := hrel
      by_cases hlt : i < j
      · have hltz : decide ((i : Int) < (j : Int)) = true := decide_eq_true (by omega)
        obtain ⟨hh, hhe⟩ : ∃ hh : Nat, ((i : Int) + (j : Int)) / 2 = (hh : Int) := ⟨(i + j) / 2, by omega⟩
        have hh1 : i ≤ hh := by omega
        have hh2 : hh < j := by omega
        obtain ⟨pc, hpc⟩ : ∃ pc : Nat, pc = mid + m - 1 - hh := ⟨_, rfl⟩
        have hpz : (mid : Int) + (m : Int) - 1 - (hh : Int) = (pc : Int) := by omega
        have wpz : IntKind.i64.wrap (pc : Int) = (pc : Int) := by rw [IntKind.wrap_i64]; omega
        have jh : (hh : Int) < (d.size : Int) := by omega
        have jm : (pc : Int) < (d.size : Int) := by omega
        obtain ⟨xh, hxh⟩ : ∃ x, d[hh]! = x := ⟨_, rfl⟩
        obtain ⟨xm, hxm⟩ : ∃ x, d[pc]! = x := ⟨_, rfl⟩
        have lh := HW.out.rd HE.out HH.out hblk rfl (t := hh) (by omega)
        have lm := HW.out.rd HE.out HH.out hblk rfl (t := pc) (by omega)
        rw [hxh] at lh
        rw [hxm] at lm
        have hcg : ∀ n' os', Calls Try.prog g (#[.agg (enc xm).toArray, .agg (enc xh).toArray] ++ cb) (grow (wr.drewN n') os') fun e w' => e = .returned (.int .i64 (cf xm xh)) ∧ ∃ q os'', w' = grow ((grow (wr.drewN n') os').drewN q) os'' := fun n' os' => HC.out.cmp xm xh _
        have hlt2 := HC.out.lt xm xh
        obtain ⟨cc, hcc⟩ : ∃ c, cf xm xh = c := ⟨_, rfl⟩
        rw [hcc] at hlt2
        simp only [hcc] at hcg
        have HX := hid (And.intro hxh hxm)
        have HE2 := hid (And.intro hhe hpc)
        clear hxh hxm hcc hpc
        cases hlv : ltP pr xm xh with
        | false =>
          rw [hlv] at hlt2
          have HLV := hid hlv
          clear hlv
          go_wp2_with fail
          go_quiet_grown (first | (go_at_fn g; refine Calls.grown_of (hcg _ _)))
          go_wp2_with fail
          go_roundw
          case measure => simp [intOf]; omega
          case rel =>
            refine ⟨hh + 1, j, by go_num, rfl, by omega, by omega, hjb, HW.out.grown _ _, fun c h1 h2 => MO.out c hh h1 (by omega) (by omega) (by rw [← HE2.out.2, HX.out.1, HX.out.2]; exact HLV.out), HR⟩
        | true =>
          rw [hlv] at hlt2
          have HLV := hid hlv
          clear hlv
          go_wp2_with fail
          go_quiet_grown (first | (go_at_fn g; refine Calls.grown_of (hcg _ _)))
          go_wp2_with fail
          go_roundw
          case measure => simp [intOf]; omega
          case rel =>
            refine ⟨i, hh, rfl, by go_num, hi1, hh1, by omega, HW.out.grown _ _, HL, ?_⟩
            show Hid _
            intro c h1 h2
            cases hv : ltP pr d[mid + m - 1 - c]! d[c]! with
            | true => rfl
            | false =>
              have := MO.out hh c (by omega) h1 h2 hv
              rw [← HE2.out.2, HX.out.1, HX.out.2, HLV.out] at this
              exact this.symm
      · have hltz : decide ((i : Int) < (j : Int)) = false := decide_eq_false (by omega)
        obtain rfl : i = j := by omega
        obtain ⟨e, he⟩ : ∃ e : Nat, e = mid + m - i := ⟨_, rfl⟩
        have hez : (mid : Int) + (m : Int) - (i : Int) = (e : Int) := by omega
        have HEq := hid he
        clear he
        have STEP := hid (fun (d1 : Array α) (hM : ∀ t, d1[t]! = d[rotI i m e t]!) => sym_step (pr := pr) (tg := tg) (d := d) (d1 := d1) (a := a) (m := m) (b := b) (mid := mid) (start := i) (by omega) (by omega) HMZ.out H1.out H2.out H3.out (by omega) (by omega)
          (fun q1 q2 => by
            have := HL.out (i - 1) (by omega) (by omega)
            rw [show mid + m - 1 - (i - 1) = mid + m - i by omega] at this
            exact bef_of_not (H3.out (i - 1) (mid + m - i) (by omega) (by omega) (by omega) (by omega)) this)
          (fun q1 q2 => by
            have := HR.out i (Nat.le_refl _) (by omega)
            rw [show mid + m - 1 - i = mid + m - i - 1 by omega] at this
            exact bef_of_lt this)
          (fun t => by rw [hM, HEq.out]))
        have ROT := hid (fun (q1 : i < m) (q2 : m < e) => (rotate_any HE.out g cb cap i m e d wr (HW.out.holds HH.out hblk rfl).1 (HW.out.holds HH.out hblk rfl).2 q1 q2 (by omega) hsz).mono fun _ _ ⟨h, d1, hS, hs, hM, hP⟩ => (show _ ∧ ∃ d1 : Array α, Hid (Rotd enc k w blk off d a b i m e d1 _) from ⟨h, d1, hs, HW.out.on hS hblk hs, hM, permIn_mono _ _ i e a b (by omega) (by omega) hb hP⟩))
        have LEFT := hid (fun (q1 : a < i) (q2 : i < mid) (d1 : Array α) (W : World) (h : Hid (Rotd enc k w blk off d a b i m e d1 W)) => (HI.out a i mid q1 q2 (by omega) (by omega) d1 W h.out.1 (h.out.2.1.holds HH.out hblk h.out.1).1 (h.out.2.1.holds HH.out hblk h.out.1).2
          (STEP.out d1 h.out.2.2.1).1 (STEP.out d1 h.out.2.2.1).2.1 (STEP.out d1 h.out.2.2.1).2.2.1).mono fun _ _ ⟨he', d2, hS, hP, hO⟩ => (show _ ∧ ∃ d2 : Array α, Hid (Lftd enc k w blk off d a mid pr tg d1 d2 _) from ⟨he', d2, hP.1.trans h.out.1, h.out.2.1.on hS hblk hP.1, hP, hO⟩))
        have RIGHT := hid (fun (q1 : mid < e) (q2 : e < b) (d1 d2 : Array α) (W0 W : World) (h1 : Hid (Rotd enc k w blk off d a b i m e d1 W0)) (h : Hid (Lftd enc k w blk off d a mid pr tg d1 d2 W)) => (HI.out mid e b q1 q2 (by omega) (by omega) d2 W h.out.1 (h.out.2.1.holds HH.out hblk h.out.1).1 (h.out.2.1.holds HH.out hblk h.out.1).2
          (fun x y p1 p2 p3 => by rw [h.out.2.2.1.2.1 x (Or.inr p1), h.out.2.2.1.2.1 y (Or.inr (by omega))]; have := (STEP.out d1 h1.out.2.2.1).2.2.2.1; rw [← HEq.out] at this; exact this x y p1 p2 p3)
          (fun x y p1 p2 p3 => by rw [h.out.2.2.1.2.1 x (Or.inr (by omega)), h.out.2.2.1.2.1 y (Or.inr (by omega))]; have := (STEP.out d1 h1.out.2.2.1).2.2.2.2.1; rw [← HEq.out] at this; exact this x y p1 p2 p3)
          (fun x y p1 p2 p3 p4 => by rw [h.out.2.2.1.2.1 x (Or.inr p1), h.out.2.2.1.2.1 y (Or.inr (by omega))]; have := (STEP.out d1 h1.out.2.2.1).2.2.2.2.2.1; rw [← HEq.out] at this; exact this x y p1 p2 p3 p4)).mono fun _ _ ⟨he', d3, hS, hP, hO⟩ => (show _ ∧ ∃ d3 : Array α, Hid (Srt enc k w blk off d3 _ ∧ PermIn mid b d2 d3 ∧ SoT pr tg d3 mid b) from ⟨he', d3, h.out.2.1.on hS hblk hP.1, hP, hO⟩))
        have FIN := hid (fun (d1 d2 d3 : Array α) (h1 : d1.size = d.size ∧ (∀ t, d1[t]! = d[rotI i m e t]!) ∧ PermIn a b d d1) (h2 : PermIn a mid d1 d2 ∧ SoT pr tg d2 a mid) (h3 : PermIn mid b d2 d3 ∧ SoT pr tg d3 mid b) => (show PermIn a b d d3 ∧ SoT pr tg d3 a b from by
          obtain ⟨f1, f2⟩ := sym_end (pr := pr) (tg := tg) (by omega) (by omega) (by omega) (STEP.out d1 h1.2.1).2.2.2.2.2.2 h2.1 h3.1 h2.2 h3.2
          exact ⟨permIn_trans _ _ _ _ _ h1.2.2 f2, f1⟩))
        -- no rotation
        have D0 := hid (fun (q : ¬(i < m ∧ m < e)) => (show Rotd enc k w blk off d a b i m e d wr from ⟨rfl, HW.out, fun t => by rw [rotI_id q (by omega) (by omega)], permIn_refl _ _ _⟩))
        -- nothing on the left, on the right
        have NL := hid (fun (q : ¬(a < i ∧ i < mid)) (d1 : Array α) (W : World) (h1 : Hid (Rotd enc k w blk off d a b i m e d1 W)) => (show Hid (Lftd enc k w blk off d a mid pr tg d1 d1 W) from ⟨h1.out.1, h1.out.2.1, permIn_refl _ _ _, by
          by_cases p : a < i
          · have hi' : i = mid := by omega
            have := (STEP.out d1 h1.out.2.2.1).1
            rw [hi'] at this
            exact this
          · have hi' : i = a := by omega
            have := (STEP.out d1 h1.out.2.2.1).2.1
            rw [hi'] at this
            exact this⟩))
        have NR := hid (fun (q : ¬(mid < e ∧ e < b)) (d1 d2 : Array α) (h1 : ∀ t, d1[t]! = d[rotI i m e t]!) (hP : PermIn a mid d1 d2) => (show SoT pr tg d2 mid b from by
          intro x y q1 q2 q3
          rw [hP.2.1 x (Or.inr q1), hP.2.1 y (Or.inr (by omega))]
          by_cases p : mid < e
          · have he' : mid + m - i = b := by omega
            have := (STEP.out d1 h1).2.2.2.1
            rw [he'] at this
            exact this x y q1 q2 q3
          · have he' : mid + m - i = mid := by omega
            have := (STEP.out d1 h1).2.2.2.2.1
            rw [he'] at this
            exact this x y q1 q2 q3))
        clear HL HR HI
        by_cases p1 : i < m
        · by_cases p2 : i < mid
          · by_cases p3 : a < i
            · by_cases p4 : e < b
              · have s1 : decide ((i : Int) < (m : Int)) = true := decide_eq_true (by omega)
                have s2 : decide ((m : Int) < (e : Int)) = true := decide_eq_true (by omega)
                have s3 : decide ((a : Int) < (i : Int)) = true := decide_eq_true (by omega)
                have s4 : decide ((i : Int) < (mid : Int)) = true := decide_eq_true (by omega)
                have s5 : decide ((mid : Int) < (e : Int)) = true := decide_eq_true (by omega)
                have s6 : decide ((e : Int) < (b : Int)) = true := decide_eq_true (by omega)
                go_wp2_with (first | (go_at_call 61; (with_reducible refine (ROT.out (by omega) (by omega)).mono ?_); rintro e1 w1 ⟨rfl, d1, hD1⟩) | (go_at_call 60; (with_reducible refine (LEFT.out (by omega) (by omega) d1 _ hD1).mono ?_); rintro e2 w2 ⟨rfl, d2, hD2⟩) | (go_at_call 60; (with_reducible refine (RIGHT.out (by omega) (by omega) d1 d2 _ _ hD1 hD2).mono ?_); rintro e3 w3 ⟨rfl, d3, hD3⟩))
                go_end0
                exact ⟨rfl, d3, hD3.out.1, FIN.out d1 d2 d3 ⟨hD1.out.1, hD1.out.2.2.1, hD1.out.2.2.2⟩ ⟨hD2.out.2.2.1, hD2.out.2.2.2⟩ ⟨hD3.out.2.1, hD3.out.2.2⟩⟩
              · have s1 : decide ((i : Int) < (m : Int)) = true := decide_eq_true (by omega)
                have s2 : decide ((m : Int) < (e : Int)) = true := decide_eq_true (by omega)
                have s3 : decide ((a : Int) < (i : Int)) = true := decide_eq_true (by omega)
                have s4 : decide ((i : Int) < (mid : Int)) = true := decide_eq_true (by omega)
                have s5 : decide ((mid : Int) < (e : Int)) = true := decide_eq_true (by omega)
                have s6 : decide ((e : Int) < (b : Int)) = false := decide_eq_false (by omega)
                go_wp2_with (first | (go_at_call 61; (with_reducible refine (ROT.out (by omega) (by omega)).mono ?_); rintro e1 w1 ⟨rfl, d1, hD1⟩) | (go_at_call 60; (with_reducible refine (LEFT.out (by omega) (by omega) d1 _ hD1).mono ?_); rintro e2 w2 ⟨rfl, d2, hD2⟩))
                go_end0
                exact ⟨rfl, d2, hD2.out.2.1, FIN.out d1 d2 d2 ⟨hD1.out.1, hD1.out.2.2.1, hD1.out.2.2.2⟩ ⟨hD2.out.2.2.1, hD2.out.2.2.2⟩ ⟨permIn_refl _ _ _, NR.out (by omega) d1 d2 hD1.out.2.2.1 hD2.out.2.2.1⟩⟩
            · by_cases p4 : e < b
              · have s1 : decide ((i : Int) < (m : Int)) = true := decide_eq_true (by omega)
                have s2 : decide ((m : Int) < (e : Int)) = true := decide_eq_true (by omega)
                have s3 : decide ((a : Int) < (i : Int)) = false := decide_eq_false (by omega)
                have s4 : decide ((i : Int) < (mid : Int)) = true := decide_eq_true (by omega)
                have s5 : decide ((mid : Int) < (e : Int)) = true := decide_eq_true (by omega)
                have s6 : decide ((e : Int) < (b : Int)) = true := decide_eq_true (by omega)
                go_wp2_with (first | (go_at_call 61; (with_reducible refine (ROT.out (by omega) (by omega)).mono ?_); rintro e1 w1 ⟨rfl, d1, hD1⟩) | (go_at_call 60; (with_reducible refine (RIGHT.out (by omega) (by omega) d1 d1 _ _ hD1 (NL.out (by omega) d1 _ hD1)).mono ?_); rintro e3 w3 ⟨rfl, d3, hD3⟩))
                go_end0
                exact ⟨rfl, d3, hD3.out.1, FIN.out d1 d1 d3 ⟨hD1.out.1, hD1.out.2.2.1, hD1.out.2.2.2⟩ (NL.out (by omega) d1 _ hD1).out.2.2 ⟨hD3.out.2.1, hD3.out.2.2⟩⟩
              · have s1 : decide ((i : Int) < (m : Int)) = true := decide_eq_true (by omega)
                have s2 : decide ((m : Int) < (e : Int)) = true := decide_eq_true (by omega)
                have s3 : decide ((a : Int) < (i : Int)) = false := decide_eq_false (by omega)
                have s4 : decide ((i : Int) < (mid : Int)) = true := decide_eq_true (by omega)
                have s5 : decide ((mid : Int) < (e : Int)) = true := decide_eq_true (by omega)
                have s6 : decide ((e : Int) < (b : Int)) = false := decide_eq_false (by omega)
                go_wp2_with (first | (go_at_call 61; (with_reducible refine (ROT.out (by omega) (by omega)).mono ?_); rintro e1 w1 ⟨rfl, d1, hD1⟩))
                go_end0
                exact ⟨rfl, d1, hD1.out.2.1, FIN.out d1 d1 d1 ⟨hD1.out.1, hD1.out.2.2.1, hD1.out.2.2.2⟩ (NL.out (by omega) d1 _ hD1).out.2.2 ⟨permIn_refl _ _ _, NR.out (by omega) d1 d1 hD1.out.2.2.1 (permIn_refl _ _ _)⟩⟩
          · have s1 : decide ((i : Int) < (m : Int)) = true := decide_eq_true (by omega)
            have s2 : decide ((m : Int) < (e : Int)) = false := decide_eq_false (by omega)
            have s3 : decide ((a : Int) < (i : Int)) = true := decide_eq_true (by omega)
            have s4 : decide ((i : Int) < (mid : Int)) = false := decide_eq_false (by omega)
            have s5 : decide ((mid : Int) < (e : Int)) = true := decide_eq_true (by omega)
            have s6 : decide ((e : Int) < (b : Int)) = true := decide_eq_true (by omega)
            go_wp2_with (first | (go_at_call 60; (with_reducible refine (RIGHT.out (by omega) (by omega) d d _ _ (hid (D0.out (by omega))) (NL.out (by omega) d _ (hid (D0.out (by omega))))).mono ?_); rintro e3 w3 ⟨rfl, d3, hD3⟩))
            go_end0
            exact ⟨rfl, d3, hD3.out.1, FIN.out d d d3 ⟨(D0.out (by omega)).1, (D0.out (by omega)).2.2.1, (D0.out (by omega)).2.2.2⟩ (NL.out (by omega) d _ (hid (D0.out (by omega)))).out.2.2 ⟨hD3.out.2.1, hD3.out.2.2⟩⟩
        · by_cases p2 : i < mid
          · have s1 : decide ((i : Int) < (m : Int)) = false := decide_eq_false (by omega)
            have s2 : decide ((m : Int) < (e : Int)) = true := decide_eq_true (by omega)
            have s3 : decide ((a : Int) < (i : Int)) = true := decide_eq_true (by omega)
            have s4 : decide ((i : Int) < (mid : Int)) = true := decide_eq_true (by omega)
            have s5 : decide ((mid : Int) < (e : Int)) = false := decide_eq_false (by omega)
            have s6 : decide ((e : Int) < (b : Int)) = true := decide_eq_true (by omega)
            go_wp2_with (first | (go_at_call 60; (with_reducible refine (LEFT.out (by omega) (by omega) d _ (hid (D0.out (by omega)))).mono ?_); rintro e2 w2 ⟨rfl, d2, hD2⟩))
            go_end0
            exact ⟨rfl, d2, hD2.out.2.1, FIN.out d d2 d2 ⟨(D0.out (by omega)).1, (D0.out (by omega)).2.2.1, (D0.out (by omega)).2.2.2⟩ ⟨hD2.out.2.2.1, hD2.out.2.2.2⟩ ⟨permIn_refl _ _ _, NR.out (by omega) d d2 (D0.out (by omega)).2.2.1 hD2.out.2.2.1⟩⟩
          · have s1 : decide ((i : Int) < (m : Int)) = false := decide_eq_false (by omega)
            have s2 : decide ((m : Int) < (e : Int)) = false := decide_eq_false (by omega)
            have s3 : decide ((a : Int) < (i : Int)) = true := decide_eq_true (by omega)
            have s4 : decide ((i : Int) < (mid : Int)) = false := decide_eq_false (by omega)
            have s5 : decide ((mid : Int) < (e : Int)) = false := decide_eq_false (by omega)
            have s6 : decide ((e : Int) < (b : Int)) = true := decide_eq_true (by omega)
            go_wp2_with fail
            go_end0
            exact ⟨rfl, d, (D0.out (by omega)).2.1, FIN.out d d d ⟨(D0.out (by omega)).1, (D0.out (by omega)).2.2.1, (D0.out (by omega)).2.2.2⟩ (NL.out (by omega) d _ (hid (D0.out (by omega)))).out.2.2 ⟨permIn_refl _ _ _, NR.out (by omega) d d (D0.out (by omega)).2.2.1 (permIn_refl _ _ _)⟩⟩
theorem symMerge_any (E : Elt enc k) (g : Nat) (cb : Array Value) (C : CmpA g cb enc cf pr) (cap sz : Nat) (hsz : sz < 4611686018427387904) : ∀ (f a m b : Nat), b - a ≤ f → a < m → m < b → b ≤ sz → SymOk enc k blk off pr tg g cb cap sz a m b := by
  intro f
  induction f with
  | zero => intro a m b h1 h2 h3 _; omega
  | succ f ih =>
    intro a m b hf ham hmb hb d w hs hH hblk h1 h2 h3
    subst hs
    by_cases hm : m = a + 1
    · subst hm
      exact sym_one E g cb C cap a b d w hH hblk hmb hb hsz h2 h3
    · by_cases hm2 : b = m + 1
      · subst hm2
        exact sym_last E g cb C cap a m d w hH hblk (by omega) hb hsz h1 h3
      · exact sym_gen E g cb C cap a m b d w hH hblk (by omega) (by omega) hb hsz h1 h2 h3 (fun a' m' b' q1 q2 q3 q4 => ih a' m' b' (by omega) q1 q2 q3)
end
end Go.Proofs.Ythoblabimkfjpaa
