/- words.Is; sound.checkRule; sound.Check; what the laws ask of package sound. -/
import Derived.Test.YthoblabimkfjpaaWoC
import Derived.Test.YthoblabimkfjpaaWdT
import Derived.Test.YthoblabimkfjpaaSoC
import Derived.Laws.IdiomStrings
import Derived.Test.YthoblabimkfjpaaPsB
import Derived.Test.YthoblabimkfjpaaSuK
import Derived.Test.YthoblabimkfjpaaSoI
import Derived.Maps.OwnSet
import Derived.Maps.Own
import Derived.Carry
namespace Go.Proofs.Ythoblabimkfjpaa
set_option maxHeartbeats 6400000
set_option maxRecDepth 1000000
open Go.RowKit
theorem isLetter_any (c : UInt8) (w : World) : Calls Try.prog 40 #[.int .u8 (c.toNat : Int)] w fun e w' => e = .returned (.bool (isLt c)) ∧ w = w' := by
  have HI : Hid (isLt c = (decide (97 ≤ c.toNat) && decide (c.toNat ≤ 122))) := rfl
  by_cases h1 : 97 ≤ c.toNat
  · have t1 : decide ((97 : Int) ≤ (c.toNat : Int)) = true := decide_eq_true (by omega)
    by_cases h2 : c.toNat ≤ 122
    · have t2 : decide ((c.toNat : Int) ≤ 122) = true := decide_eq_true (by omega)
      rw [decide_eq_true h1, decide_eq_true h2] at HI
      clear h1 h2
      go_enter Try.func40, Try.ntmps40
      go_wp2_with fail
      go_ret
      exact ⟨by rw [HI.out]; rfl, rfl⟩
    · have t2 : decide ((c.toNat : Int) ≤ 122) = false := decide_eq_false (by omega)
      rw [decide_eq_true h1, decide_eq_false h2] at HI
      clear h1 h2
      go_enter Try.func40, Try.ntmps40
      go_wp2_with fail
      go_ret
      exact ⟨by rw [HI.out]; rfl, rfl⟩
  · have t1 : decide ((97 : Int) ≤ (c.toNat : Int)) = false := decide_eq_false (by omega)
    rw [decide_eq_false h1] at HI
    clear h1
    go_enter Try.func40, Try.ntmps40
    go_wp2_with fail
    go_ret
    exact ⟨by rw [HI.out]; rfl, rfl⟩
theorem isDigit_any (c : UInt8) (w : World) : Calls Try.prog 52 #[.int .u8 (c.toNat : Int)] w fun e w' => e = .returned (.bool (isDg c)) ∧ w = w' := by
  have HI : Hid (isDg c = (decide (48 ≤ c.toNat) && decide (c.toNat ≤ 57))) := rfl
  by_cases h1 : 48 ≤ c.toNat
  · have t1 : decide ((48 : Int) ≤ (c.toNat : Int)) = true := decide_eq_true (by omega)
    by_cases h2 : c.toNat ≤ 57
    · have t2 : decide ((c.toNat : Int) ≤ 57) = true := decide_eq_true (by omega)
      rw [decide_eq_true h1, decide_eq_true h2] at HI
      clear h1 h2
      go_enter Try.func52, Try.ntmps52
      go_wp2_with fail
      go_ret
      exact ⟨by rw [HI.out]; rfl, rfl⟩
    · have t2 : decide ((c.toNat : Int) ≤ 57) = false := decide_eq_false (by omega)
      rw [decide_eq_true h1, decide_eq_false h2] at HI
      clear h1 h2
      go_enter Try.func52, Try.ntmps52
      go_wp2_with fail
      go_ret
      exact ⟨by rw [HI.out]; rfl, rfl⟩
  · have t1 : decide ((48 : Int) ≤ (c.toNat : Int)) = false := decide_eq_false (by omega)
    rw [decide_eq_false h1] at HI
    clear h1
    go_enter Try.func52, Try.ntmps52
    go_wp2_with fail
    go_ret
    exact ⟨by rw [HI.out]; rfl, rfl⟩
theorem staysInWord_any (c : UInt8) (w : World) : Calls Try.prog 41 #[.int .u8 (c.toNat : Int)] w fun e w' => e = .returned (.bool (isWd c)) ∧ w = w' := by
  have HI : Hid (isWd c = (isLt c || isDg c || c == 45)) := rfl
  have HL := hid (isLetter_any c)
  have HD := hid (isDigit_any c)
  cases h1 : isLt c with
  | true =>
    rw [h1] at HI HL
    clear h1
    go_enter Try.func41, Try.ntmps41
    go_wp2_with (first | (go_at_call 40; (with_reducible refine (HL.out _).mono ?_); rintro _ _ ⟨rfl, rfl⟩) | (go_at_call 52; (with_reducible refine (HD.out _).mono ?_); rintro _ _ ⟨rfl, rfl⟩))
    go_ret
    exact ⟨by rw [HI.out]; rfl, rfl⟩
  | false =>
    cases h2 : isDg c with
    | true =>
      rw [h1, h2] at HI
      rw [h1] at HL
      rw [h2] at HD
      clear h1 h2
      go_enter Try.func41, Try.ntmps41
      go_wp2_with (first | (go_at_call 40; (with_reducible refine (HL.out _).mono ?_); rintro _ _ ⟨rfl, rfl⟩) | (go_at_call 52; (with_reducible refine (HD.out _).mono ?_); rintro _ _ ⟨rfl, rfl⟩))
      go_ret
      exact ⟨by rw [HI.out]; rfl, rfl⟩
    | false =>
      cases h3 : (c == 45) with
      | true =>
        have u3 : ((c.toNat : Int) == 45) = true := u8_eq h3
        rw [h1, h2, h3] at HI
        rw [h1] at HL
        rw [h2] at HD
        clear h1 h2 h3
        go_enter Try.func41, Try.ntmps41
        go_wp2_with (first | (go_at_call 40; (with_reducible refine (HL.out _).mono ?_); rintro _ _ ⟨rfl, rfl⟩) | (go_at_call 52; (with_reducible refine (HD.out _).mono ?_); rintro _ _ ⟨rfl, rfl⟩))
        go_ret
        exact ⟨by rw [HI.out]; rfl, rfl⟩
      | false =>
        have u3 : ((c.toNat : Int) == 45) = false := u8_ne h3
        rw [h1, h2, h3] at HI
        rw [h1] at HL
        rw [h2] at HD
        clear h1 h2 h3
        go_enter Try.func41, Try.ntmps41
        go_wp2_with (first | (go_at_call 40; (with_reducible refine (HL.out _).mono ?_); rintro _ _ ⟨rfl, rfl⟩) | (go_at_call 52; (with_reducible refine (HD.out _).mono ?_); rintro _ _ ⟨rfl, rfl⟩))
        go_ret
        exact ⟨by rw [HI.out]; rfl, rfl⟩
open Go.RowKit
def isS : List UInt8 → Bool
  | [] => false
  | c :: r => isLt c && (c :: r).all isWd
theorem is_word (s : List UInt8) (h : s.length ≤ 10000) : wordS s = isS s := by
  cases hs : isS s with
  | true =>
    cases s with
    | nil => cases hs
    | cons c r =>
      unfold isS at hs
      simp only [Bool.and_eq_true] at hs
      obtain ⟨h1, h2⟩ := hs
      obtain ⟨h3, h4⟩ := lt_not h1
      have hw : (c :: r).takeWhile isWd = c :: r := by
        have := while_take (P := isWd) (c :: r) [] (fun x hx => List.all_eq_true.1 h2 x hx) (fun c q hq => by cases hq)
        rw [List.append_nil] at this
        exact this.1
      have hsc : scanAt (c :: r) 0 = ([⟨1, 0, c :: r⟩], none) := by
        rw [scanAt_step (c := c) rfl, if_neg (by rw [h3]; decide), if_neg (by rw [h4]; decide), if_pos h1, List.drop_zero, hw, Nat.zero_add, scanAt_end (Nat.le_refl _)]
        rfl
      have hsp : splitS (c :: r) = ([⟨1, 0, c :: r⟩], -1, 0) := by
        unfold splitS
        rw [if_neg (by omega), hsc]
      unfold wordS
      rw [hsp]
      simp [oneW]
  | false =>
    cases hw : wordS s with
    | false => rfl
    | true =>
      unfold wordS at hw
      simp only [Bool.and_eq_true, decide_eq_true_eq] at hw
      obtain ⟨he, ho⟩ := hw
      obtain ⟨l, a, e, hsp⟩ : ∃ l a e, splitS s = (l, a, e) := ⟨_, _, _, rfl⟩
      rw [hsp] at he ho
      simp only at he ho
      subst he
      match l, ho with
      | [t], ho =>
        simp only [oneW, Bool.and_eq_true, decide_eq_true_eq] at ho
        have hk := (split_toks hsp).1 t (List.mem_singleton.2 rfl)
        rcases hk with ⟨_, ⟨c, r, hc, hl⟩, hal⟩ | ⟨hk, _⟩ | ⟨hk, _⟩
        · rw [ho.2] at hc hal
          subst hc
          have h1 : isS (c :: r) = true := by
            show (isLt c && (c :: r).all isWd) = true
            rw [hl, List.all_eq_true.2 hal]
            rfl
          rw [h1] at hs
          cases hs
        · rw [ho.1] at hk; cases hk
        · rw [ho.1] at hk; cases hk
theorem conv_bytes (s : List UInt8) (w : World) : ∃ cap w', (convert 9 23 (.string (txt s))).run Try.prog w = .ok (.slice (some ⟨w.heap.size, 0, none⟩) s.length cap) w' ∧ Below w.heap.size w w' ∧ ∀ (i : Nat) (x : UInt8), s[i]? = some x → w'.cell? ⟨w.heap.size, i, none⟩ = some (.int .u8 (x.toNat : Int)) := by
  have h := run_bytes_of_string (P := Try.prog) w 9 23 5 (txt s) Try.underlying9 Try.underlying23 Try.underlying5
  rw [txt_size] at h
  refine ⟨_, _, h, (Below.refl _ _).drew.alloc (by simp) _, fun i x hx => ?_⟩
  have hi : i < s.length := (List.getElem?_eq_some_iff.1 hx).1
  have h1 : ((w.drew.alloc (.cells (bytesRow (txt s) (grownCap w s.length 0 5)) 5 ((bytesRow (txt s) (grownCap w s.length 0 5)).size, (bytesRow (txt s) (grownCap w s.length 0 5)).size + 1)))).heap[w.heap.size]? = _ := heap_alloc_new w.drew _
  unfold World.cell?
  rw [h1]
  show (bytesRow (txt s) _)[i]? = _
  have hsz : (txt s).data.size = s.length := by simp [txt]
  rw [bytesRow_at _ _ _ (by rw [hsz]; exact hi)]
  congr 3
  obtain ⟨_, he⟩ := List.getElem?_eq_some_iff.1 hx
  rw [← he]
  simp [txt]
theorem is_any (s : List UInt8) (w : World) (hs : s.length ≤ 10000) : Calls Try.prog 27 #[.string (txt s)] w fun e w' => e = .returned (.bool (isS s)) ∧ Below w.heap.size w w' := by
  have HL := hid isLetter_any
  have HW := hid staysInWord_any
  match s, hs with
  | [], _ =>
    have hne : (txt []).toList.isEmpty = true := by rw [txt_list]; rfl
    go_enter Try.func27, Try.ntmps27
    go_wp2_with fail
    go_ret
    exact ⟨rfl, Below.refl _ _⟩
  | c :: r, hs =>
    have hx : (c :: r)[0]? = some c := rfl
    have hat : ∀ W, (Instr.index 9 (.string (txt (c :: r))) (.int .i64 0)).run Try.prog W = .ok (.int .u8 (c.toNat : Int)) W := fun W => run_at (c :: r) 0 c hx W
    obtain ⟨s, hse⟩ : ∃ s, c :: r = s := ⟨_, rfl⟩
    rw [hse] at hat hs hx ⊢
    have hne : (txt s).toList.isEmpty = false := by rw [txt_list, ← hse]; rfl
    have Q : Hid (isS s = (isLt c && s.all isWd)) := by rw [← hse]; rfl
    cases h1 : isLt c with
    | false =>
      have HL1 := hid (fun W => isLetter_any c W)
      rw [h1] at Q HL1
      clear h1 hse
      go_enter Try.func27, Try.ntmps27
      go_wp2_with (first | (go_at_call 40; (with_reducible refine (HL1.out _).mono ?_); rintro _ _ ⟨rfl, rfl⟩))
      go_ret
      exact ⟨by rw [Q.out]; rfl, Below.refl _ _⟩
    | true =>
      have HL1 := hid (fun W => isLetter_any c W)
      rw [h1] at Q HL1
      rw [Bool.true_and] at Q
      obtain ⟨cap, w2, hcv, hb2, hc2⟩ := conv_bytes s w
      have HB2 := hid hb2
      have HC2 := hid hc2
      clear h1 hse hb2 hc2
      go_enter Try.func27, Try.ntmps27
      go_wp2_with (first | (go_at_call 40; (with_reducible refine (HL1.out _).mono ?_); rintro _ _ ⟨rfl, rfl⟩))
      go_loopw [4, 16] (fun _ iv wr => ∃ i : Nat, i ≤ s.length ∧ iv = .int .i64 i ∧ w2 = wr ∧ Hid ((s.take i).all isWd = true)) (fun _ iv _ => s.length - (intOf iv).toNat)
      case atStart => exact ⟨0, Nat.zero_le _, rfl, rfl, rfl⟩
      case round =>
        obtain ⟨i, hi, rfl, rfl, HA⟩ := hrel
        by_cases hlt : i < s.length
        · obtain ⟨x, hxi⟩ : ∃ x, s[i]? = some x := ⟨s[i], List.getElem?_eq_getElem hlt⟩
          have z0 := HC2.out i x hxi
          have kl : (i : Int) < (s.length : Int) := by omega
          have HSt : Hid ((s.take (i + 1)).all isWd = isWd x) := by
            show _ = _
            rw [List.take_add_one, hxi, List.all_append, HA.out]
            simp
          have HAl := hid (fun (h : isWd x = false) => (List.all_eq_false.2 ⟨x, List.mem_of_getElem? hxi, by rw [h]; decide⟩ : s.all isWd = false))
          have HWx := hid (fun W => staysInWord_any x W)
          clear hxi
          cases h2 : isWd x with
          | true =>
            rw [h2] at HSt HWx
            clear h2
            go_wp2_with (first | (go_at_call 41; (with_reducible refine (HWx.out _).mono ?_); rintro _ _ ⟨rfl, rfl⟩))
            go_roundw
            case rel => exact ⟨i + 1, by omega, by go_num, by trivial, HSt⟩
            case measure => simp [intOf]; omega
          | false =>
            rw [h2] at HWx
            have HF := hid (HAl.out h2)
            clear h2
            go_wp2_with (first | (go_at_call 41; (with_reducible refine (HWx.out _).mono ?_); rintro _ _ ⟨rfl, rfl⟩))
            go_ret
            exact ⟨by rw [Q.out, HF.out]; rfl, HB2.out⟩
        · obtain rfl : i = s.length := by omega
          go_wp2_with fail
          go_ret
          exact ⟨by rw [Q.out, ← HA.out, List.take_length]; rfl, HB2.out⟩
def inB (n m : Int) : Bool := decide (0 ≤ n) && decide (n ≤ m)
theorem within_any (n m : Int) (w : World) : Calls Try.prog 54 #[.int .i64 n, .int .i64 m] w fun e w' => e = .returned (.bool (inB n m)) ∧ w = w' := by
  have Q : Hid (inB n m = (decide (0 ≤ n) && decide (n ≤ m))) := rfl
  cases h1 : decide (0 ≤ n) with
  | true =>
    cases h2 : decide (n ≤ m) with
    | true =>
      rw [h1, h2] at Q
      go_enter Try.func54, Try.ntmps54
      go_wp2_with fail
      go_ret
      exact ⟨by rw [Q.out]; rfl, rfl⟩
    | false =>
      rw [h1, h2] at Q
      go_enter Try.func54, Try.ntmps54
      go_wp2_with fail
      go_ret
      exact ⟨by rw [Q.out]; rfl, rfl⟩
  | false =>
    rw [h1] at Q
    go_enter Try.func54, Try.ntmps54
    go_wp2_with fail
    go_ret
    exact ⟨by rw [Q.out]; rfl, rfl⟩
def okM (m : Mat) : Bool := inB m.pr 255 && (inB m.sp 65535 && (inB m.dp 65535 && (inB m.sl 32 && inB m.dl 32)))
theorem bad_ok (r : Rul) : badM r = (decide (r.pri < 0) || !okM r.m) := by
  unfold badM okM inB
  simp only [Bool.not_and, ← decide_not, Int.not_le, Bool.or_assoc]
theorem canBe_any (m : Mat) (w : World) : Calls Try.prog 43 #[.agg #[.int .u32 (m.sa : Int), .int .i64 m.sl, .int .u32 (m.da : Int), .int .i64 m.dl, .int .i64 m.pr, .int .i64 m.sp, .int .i64 m.dp]] w fun e w' => e = .returned (.bool (okM m)) ∧ Below w.heap.size w w' := by
  have Q : Hid (okM m = (inB m.pr 255 && (inB m.sp 65535 && (inB m.dp 65535 && (inB m.sl 32 && inB m.dl 32))))) := rfl
  have b1 : Below w.heap.size w (w.alloc (.cells #[.int .u32 (m.sa : Int), .int .i64 m.sl, .int .u32 (m.da : Int), .int .i64 m.dl, .int .i64 m.pr, .int .i64 m.sp, .int .i64 m.dp] 56)) := Below.alloc (Below.refl _ _) (Nat.le_refl _) _
  have H0 := hid (fun W => within_any m.pr 255 W)
  cases e0 : inB m.pr 255 with
  | false =>
    rw [e0] at Q H0
    try simp only [Bool.false_and] at Q
    go_enter Try.func43, Try.ntmps43
    go_wp2_with (first | (go_at_call 54; (first | with_reducible refine (H0.out _).mono ?_); rintro _ _ ⟨rfl, rfl⟩))
    go_ret
    exact ⟨by rw [Q.out]; rfl, b1⟩
  | true =>
    rw [e0] at Q H0
    try simp only [Bool.true_and] at Q
    have H1 := hid (fun W => within_any m.sp 65535 W)
    cases e1 : inB m.sp 65535 with
    | false =>
      rw [e1] at Q H1
      try simp only [Bool.false_and] at Q
      go_enter Try.func43, Try.ntmps43
      go_wp2_with (first | (go_at_call 54; (first | with_reducible refine (H0.out _).mono ?_ | with_reducible refine (H1.out _).mono ?_); rintro _ _ ⟨rfl, rfl⟩))
      go_ret
      exact ⟨by rw [Q.out]; rfl, b1⟩
    | true =>
      rw [e1] at Q H1
      try simp only [Bool.true_and] at Q
      have H2 := hid (fun W => within_any m.dp 65535 W)
      cases e2 : inB m.dp 65535 with
      | false =>
        rw [e2] at Q H2
        try simp only [Bool.false_and] at Q
        go_enter Try.func43, Try.ntmps43
        go_wp2_with (first | (go_at_call 54; (first | with_reducible refine (H0.out _).mono ?_ | with_reducible refine (H1.out _).mono ?_ | with_reducible refine (H2.out _).mono ?_); rintro _ _ ⟨rfl, rfl⟩))
        go_ret
        exact ⟨by rw [Q.out]; rfl, b1⟩
      | true =>
        rw [e2] at Q H2
        try simp only [Bool.true_and] at Q
        have H3 := hid (fun W => within_any m.sl 32 W)
        cases e3 : inB m.sl 32 with
        | false =>
          rw [e3] at Q H3
          try simp only [Bool.false_and] at Q
          go_enter Try.func43, Try.ntmps43
          go_wp2_with (first | (go_at_call 54; (first | with_reducible refine (H0.out _).mono ?_ | with_reducible refine (H1.out _).mono ?_ | with_reducible refine (H2.out _).mono ?_ | with_reducible refine (H3.out _).mono ?_); rintro _ _ ⟨rfl, rfl⟩))
          go_ret
          exact ⟨by rw [Q.out]; rfl, b1⟩
        | true =>
          rw [e3] at Q H3
          try simp only [Bool.true_and] at Q
          have H4 := hid (fun W => within_any m.dl 32 W)
          cases e4 : inB m.dl 32 with
          | false =>
            rw [e4] at Q H4
            try simp only [Bool.false_and] at Q
            go_enter Try.func43, Try.ntmps43
            go_wp2_with (first | (go_at_call 54; (first | with_reducible refine (H0.out _).mono ?_ | with_reducible refine (H1.out _).mono ?_ | with_reducible refine (H2.out _).mono ?_ | with_reducible refine (H3.out _).mono ?_ | with_reducible refine (H4.out _).mono ?_); rintro _ _ ⟨rfl, rfl⟩))
            go_ret
            exact ⟨by rw [Q.out]; rfl, b1⟩
          | true =>
            rw [e4] at Q H4
            try simp only [Bool.true_and] at Q
            go_enter Try.func43, Try.ntmps43
            go_wp2_with (first | (go_at_call 54; (first | with_reducible refine (H0.out _).mono ?_ | with_reducible refine (H1.out _).mono ?_ | with_reducible refine (H2.out _).mono ?_ | with_reducible refine (H3.out _).mono ?_ | with_reducible refine (H4.out _).mono ?_); rintro _ _ ⟨rfl, rfl⟩))
            go_ret
            exact ⟨by rw [Q.out]; rfl, b1⟩
open Go.RowKit
def rulC (nd : Int) (l : List Lnk) (r : Rul) : Int := if rightS nd l r.x ≠ 0 then rightS nd l r.x else if badM r = true then 1 else 0
theorem checkRule_any (nd : Int) (A : Option Addr) (n c : Nat) (l : List Lnk) (r : Rul) (y : WSl) (w : World) (hr : RLnk w w.heap.size A n l) (hw : WArg w r.x y) (hl : y.nv ≤ 100 ∧ y.nn ≤ 100 ∧ y.nl ≤ 100 ∧ y.nc ≤ 100) :
    Calls Try.prog 28 #[.agg #[.int .i64 nd, .slice A n c], .agg #[.string (txt r.name), .int .i64 r.pri, .int .u32 (r.m.sa : Int), .int .i64 r.m.sl, .int .u32 (r.m.da : Int), .int .i64 r.m.dl, .int .i64 r.m.pr, .int .i64 r.m.sp, .int .i64 r.m.dp, .int .i64 r.x.frm, .int .i64 r.x.too, .int .i64 r.x.bnd, .slice y.av y.nv y.cv, .slice y.an y.nn y.cn, .slice y.al y.nl y.cl, .slice y.ac y.nc y.cc, .bool r.strict]] w fun e w' => e = .returned (.int .i64 (rulC nd l r)) ∧ Below w.heap.size w w' := by
  have HR := hid (fun (W : World) (hb : Below w.heap.size w W) => rightP_any nd A n c l r.x y W ((hr.below hb).more hb.size) (hw.on hb) hl.1 hl.2.1 hl.2.2.1 hl.2.2.2)
  obtain ⟨f, hf⟩ : ∃ f, rightS nd l r.x = f := ⟨_, rfl⟩
  have hQ : rulC nd l r = if f ≠ 0 then f else if badM r = true then 1 else 0 := by unfold rulC; rw [hf]
  rw [hf] at HR
  have B2 := hid (show Below w.heap.size w ((w.alloc (.cells #[.int .i64 nd, .slice A n c] 39)).alloc (.cells #[.string (txt r.name), .int .i64 r.pri, .int .u32 (r.m.sa : Int), .int .i64 r.m.sl, .int .u32 (r.m.da : Int), .int .i64 r.m.dl, .int .i64 r.m.pr, .int .i64 r.m.sp, .int .i64 r.m.dp, .int .i64 r.x.frm, .int .i64 r.x.too, .int .i64 r.x.bnd, .slice y.av y.nv y.cv, .slice y.an y.nn y.cn, .slice y.al y.nl y.cl, .slice y.ac y.nc y.cc, .bool r.strict] 58)) from ((Below.refl _ _).alloc (Nat.le_refl _) _).alloc (by simp) _)
  have X2 := hid (show RBox (w.heap.size + 1) r y ((w.alloc (.cells #[.int .i64 nd, .slice A n c] 39)).alloc (.cells #[.string (txt r.name), .int .i64 r.pri, .int .u32 (r.m.sa : Int), .int .i64 r.m.sl, .int .u32 (r.m.da : Int), .int .i64 r.m.dl, .int .i64 r.m.pr, .int .i64 r.m.sp, .int .i64 r.m.dp, .int .i64 r.x.frm, .int .i64 r.x.too, .int .i64 r.x.bnd, .slice y.av y.nv y.cv, .slice y.an y.nn y.cn, .slice y.al y.nl y.cl, .slice y.ac y.nc y.cc, .bool r.strict] 58)) from by
    have := heap_alloc_new (w.alloc (.cells #[.int .i64 nd, .slice A n c] 39)) (.cells #[.string (txt r.name), .int .i64 r.pri, .int .u32 (r.m.sa : Int), .int .i64 r.m.sl, .int .u32 (r.m.da : Int), .int .i64 r.m.dl, .int .i64 r.m.pr, .int .i64 r.m.sp, .int .i64 r.m.dp, .int .i64 r.x.frm, .int .i64 r.x.too, .int .i64 r.x.bnd, .slice y.av y.nv y.cv, .slice y.an y.nn y.cn, .slice y.al y.nl y.cl, .slice y.ac y.nc y.cc, .bool r.strict] 58)
    rw [show (w.alloc (.cells #[.int .i64 nd, .slice A n c] 39)).heap.size = w.heap.size + 1 by simp] at this
    exact this)
  have HCan := hid (fun W => canBe_any r.m W)
  clear hr hw hl hf
  by_cases hf0 : f = 0
  · subst hf0
    have t5 : ((0 : Int) != 0) = false := rfl
    rw [if_neg (by decide), bad_ok] at hQ
    cases h1 : decide (r.pri < 0) with
    | true =>
      rw [h1] at hQ
      have HQ := hid hQ
      clear hQ
      go_enter Try.func28, Try.ntmps28
      go_wp2_with (first | (go_at_call 42; (with_reducible refine (HR.out _ B2.out).mono ?_); rintro e1 w3 ⟨rfl, hb3⟩; have X3 := hid (box_below X2.out hb3 (pst_lt X2.out)); have HB3 := hid (B2.out.trans (hb3.mono B2.out.size)); obtain ⟨y0, y1, y2, y3, y4, y5, y6, y7, y8, y9, y10, y11, y12, y13, y14, y15, y16⟩ := rbox_cells X3.out; clear hb3))
      go_ret
      exact ⟨by rw [HQ.out]; rfl, HB3.out⟩
    | false =>
      rw [h1, Bool.false_or] at hQ
      obtain ⟨ok, hok⟩ : ∃ ok, okM r.m = ok := ⟨_, rfl⟩
      rw [hok] at hQ HCan
      clear hok
      cases ok with
      | true =>
        have HQ := hid hQ
        clear hQ
        go_enter Try.func28, Try.ntmps28
        go_wp2_with (first | (go_at_call 42; (with_reducible refine (HR.out _ B2.out).mono ?_); rintro e1 w3 ⟨rfl, hb3⟩; have X3 := hid (box_below X2.out hb3 (pst_lt X2.out)); have HB3 := hid (B2.out.trans (hb3.mono B2.out.size)); obtain ⟨y0, y1, y2, y3, y4, y5, y6, y7, y8, y9, y10, y11, y12, y13, y14, y15, y16⟩ := rbox_cells X3.out; clear hb3) | (go_at_call 43; (with_reducible refine (HCan.out _).mono ?_); rintro e2 w4 ⟨rfl, hb4⟩; have HB4 := hid (HB3.out.trans (hb4.mono HB3.out.size)); clear hb4))
        go_ret
        exact ⟨by rw [HQ.out]; rfl, HB4.out⟩
      | false =>
        have HQ := hid hQ
        clear hQ
        go_enter Try.func28, Try.ntmps28
        go_wp2_with (first | (go_at_call 42; (with_reducible refine (HR.out _ B2.out).mono ?_); rintro e1 w3 ⟨rfl, hb3⟩; have X3 := hid (box_below X2.out hb3 (pst_lt X2.out)); have HB3 := hid (B2.out.trans (hb3.mono B2.out.size)); obtain ⟨y0, y1, y2, y3, y4, y5, y6, y7, y8, y9, y10, y11, y12, y13, y14, y15, y16⟩ := rbox_cells X3.out; clear hb3) | (go_at_call 43; (with_reducible refine (HCan.out _).mono ?_); rintro e2 w4 ⟨rfl, hb4⟩; have HB4 := hid (HB3.out.trans (hb4.mono HB3.out.size)); clear hb4))
        go_ret
        exact ⟨by rw [HQ.out]; rfl, HB4.out⟩
  · have t5 : (f != 0) = true := by simpa using hf0
    rw [if_pos hf0] at hQ
    have HQ := hid hQ
    clear hQ hf0
    go_enter Try.func28, Try.ntmps28
    go_wp2_with (first | (go_at_call 42; (with_reducible refine (HR.out _ B2.out).mono ?_); rintro e1 w3 ⟨rfl, hb3⟩; have X3 := hid (box_below X2.out hb3 (pst_lt X2.out)); have HB3 := hid (B2.out.trans (hb3.mono B2.out.size)); obtain ⟨y0, y1, y2, y3, y4, y5, y6, y7, y8, y9, y10, y11, y12, y13, y14, y15, y16⟩ := rbox_cells X3.out; clear hb3))
    go_ret
    exact ⟨by rw [HQ.out]; rfl, HB3.out⟩
open Go.RowKit Go.Maps Go.WideMaps
theorem law_s : Keyed Try.prog 9 := string_keyed Try.underlying9
theorem zero_u (w : World) : (zeroValue 73).run Try.prog w = .ok (.agg #[]) w := by kernel_rfl
def namesD (rs : List Rul) : DataW Unit := setOf (.agg [] : DataW Unit) (rs.map fun r => Lit.string r.name)
theorem has_names (rs : List Rul) (r : Rul) : Maps.has (namesD rs) (Lit.string r.name) = twiceB rs r := by
  unfold namesD twiceB
  rw [has_setOf _ _ _ (fun x hx => by
    obtain ⟨q, _, rfl⟩ := List.mem_map.1 hx
    exact trivial), List.any_map]
  congr 1
  funext q
  show (Lit.string q.name).sameKey (Lit.string r.name) = _
  by_cases h : q.name = r.name <;> simp [Lit.sameKey, h]
theorem names_snoc (rs : List Rul) (r : Rul) : namesD (rs ++ [r]) = (namesD rs).put (Lit.string r.name) (.agg []) := by
  unfold namesD
  rw [List.map_append, List.map_singleton, setOf_snoc]
theorem key_name (s : List UInt8) (h : s.length ≤ 100) : keyOf Try.prog 9 (.string (txt s)) = some (Lit.string s) := by
  have := keyOf_string_mk (P := Try.prog) (k := 9) Try.underlying9 (s := txt s) (by rw [txt_size]; unfold maxLen; omega)
  rw [this]
  simp [txt]
/-- Beside: the graph's box, the names so far. -/
structure CkSt (w : World) (nd : Int) (A : Option Addr) (n c MB i : Nat) (D : DataW Unit) (wr : World) : Prop where
  held : Held w nd A n c wr
  map : wr.ownsMap Try.prog 9 unitElem MB i D
  lt : w.heap.size < MB
theorem CkSt.on {w : World} {nd : Int} {A : Option Addr} {n c MB i : Nat} {D : DataW Unit} {wr wx : World} (h : CkSt w nd A n c MB i D wr) (hb : Below wr.heap.size wr wx) : CkSt w nd A n c MB i D wx :=
  ⟨h.held.next hb, h.map.kept (grown_of_below hb none) (fun e => by cases e), h.lt⟩
theorem CkSt.put {w : World} {nd : Int} {A : Option Addr} {n c MB i : Nat} {D D' : DataW Unit} {wr wx : World} (h : CkSt w nd A n c MB i D wr) (hm : wx.ownsMap Try.prog 9 unitElem MB (i + 1) D') (hg : wr.grownBy wx (some MB)) : CkSt w nd A n c MB (i + 1) D' wx := by
  refine ⟨⟨h.held.1.grown hg h.held.1.size (fun k hk => ?_), ?_⟩, hm, h.lt⟩
  · injection hk with hk; have := h.lt; omega
  · rw [hg.block _ (pst_lt h.held.2) (fun e => ?_)]
    · exact h.held.2
    · injection e with e; have := h.lt; omega
theorem box_map {wr wx : World} {BS MB i : Nat} {r : Rul} {y : WSl} {D : DataW Unit} (h : RBox BS r y wr) (hm : wr.ownsMap Try.prog 9 unitElem MB i D) (hg : wr.grownBy wx (some MB)) : RBox BS r y wx := by
  refine (hg.block BS (pst_lt h) (fun e => ?_)).trans h
  injection e with e
  subst e
  obtain ⟨es, clock, hb, _⟩ := hm
  have h' : wr.heap[BS]? = some (.cells (rarr r y) 58 (0, 0)) := h
  rw [h'] at hb
  simp at hb
theorem check_bad (nd : Int) (A : Option Addr) (n c : Nat) (l : List Lnk) (A2 : Option Addr) (n2 c2 : Nat) (w : World) (hr : RLnk w w.heap.size A n l) (h : (checkS nd l).2 ≠ 0) :
    Calls Try.prog 16 #[.agg #[.int .i64 nd, .slice A n c], .slice A2 n2 c2] w fun e w' => e = .returned (.tuple #[.int .i64 (-1), .int .i64 (checkS nd l).2]) ∧ Below w.heap.size w w' := by
  have hS := Held.start w nd A n c
  have HC := hid (hS.calls (check_any nd A n c l _ (hS.on hr)))
  obtain ⟨a, e, hae⟩ : ∃ a e, checkS nd l = (a, e) := ⟨_, _, rfl⟩
  rw [hae] at HC h
  rw [hae]
  have t1 : (e != 0) = true := by simpa using h
  obtain ⟨g0, g1⟩ := hS.cells
  clear hr h hae
  go_enter Try.func16, Try.ntmps16
  go_wp2_with (go_at_call 26; (with_reducible refine HC.out.mono ?_); rintro e' w1 ⟨rfl, h1⟩)
  go_ret2
  exact ⟨rfl, h1.1⟩
theorem check_in (nd : Int) (A : Option Addr) (n c : Nat) (l : List Lnk) (A2 : Option Addr) (n2 c2 : Nat) (qs : List (Rul × WSl)) (w : World) (hr : RLnk w w.heap.size A n l) (hq : RRul w A2 n2 c2 qs) (hn : n2 ≤ 30) (hnm : ∀ q ∈ qs, q.1.name.length ≤ 100) (hfew : ∀ q ∈ qs, q.2.nv ≤ 100 ∧ q.2.nn ≤ 100 ∧ q.2.nl ≤ 100 ∧ q.2.nc ≤ 100) (h : (checkS nd l).2 = 0) :
    Calls Try.prog 16 #[.agg #[.int .i64 nd, .slice A n c], .slice A2 n2 c2] w fun e w' => e = .returned (.tuple #[.int .i64 (goC nd l [] (qs.map (·.1))).1, .int .i64 (goC nd l [] (qs.map (·.1))).2]) ∧ Below w.heap.size w w' := by
  have hS := Held.start w nd A n c
  have HC := hid (hS.calls (check_any nd A n c l _ (hS.on hr)))
  obtain ⟨a, e, hae⟩ : ∃ a e, checkS nd l = (a, e) := ⟨_, _, rfl⟩
  rw [hae] at HC h
  simp only at h
  subst h
  obtain ⟨g0, g1⟩ := hS.cells
  have HRt : Hid (∀ (r : Rul) (y : WSl) (w' : World) (_ : Held w nd A n c w') (_ : WArg w' r.x y) (_ : y.nv ≤ 100 ∧ y.nn ≤ 100 ∧ y.nl ≤ 100 ∧ y.nc ≤ 100), Calls Try.prog 28 #[.agg #[.int .i64 nd, .slice A n c], .agg (rarr r y)] w' fun e w'' => e = .returned (.int .i64 (rulC nd l r)) ∧ Below w'.heap.size w' w'') := fun r y w' hh hw h1 => checkRule_any nd A n c l r y w' (hh.on hr) hw h1
  have HWd := hid (fun (s : List UInt8) (w' : World) (hs : s.length ≤ 100) => is_any s w' (by omega))
  have HH := hid hq
  have HNm := hid hnm
  have HFw := hid hfew
  have Hlen := hid hq.len
  have hmm := @run_makeMap Try.prog
  obtain ⟨rs, hrs⟩ : ∃ rs, qs.map (·.1) = rs := ⟨_, rfl⟩
  obtain ⟨R, hR⟩ : ∃ R, goC nd l [] rs = R := ⟨_, rfl⟩
  rw [hrs, hR]
  have HR0 : Hid (goC nd l (rs.take 0) (rs.drop 0) = R) := hR
  have Hrs := hid hrs
  clear hr hq hnm hfew hae hrs hR
  go_enter Try.func16, Try.ntmps16
  go_wp2_with (go_at_call 26; (with_reducible refine HC.out.mono ?_); rintro e' w1 ⟨rfl, h1⟩)
  have hS0 := hid (show CkSt w nd A n c w1.heap.size 0 (namesD []) (w1.alloc (.map #[] 0)) from ⟨h1.next ((Below.refl _ _).alloc (Nat.le_refl _) _), World.ownsMap_made _ _ _ _, h1.lt⟩)
  obtain ⟨MB, hMB⟩ : ∃ MB, w1.heap.size = MB := ⟨_, rfl⟩
  simp only [hMB]
  rw [hMB] at hS0
  go_loopw [9, 10, 11, 12, 13, 25] (fun _ _ _ _ _ iv wr => ∃ i : Nat, i ≤ n2 ∧ iv = .int .i64 i ∧ Hid (goC nd l (rs.take i) (rs.drop i) = R) ∧ Hid (CkSt w nd A n c MB i (namesD (rs.take i)) wr)) (fun _ _ _ _ _ iv _ => n2 - (intOf iv).toNat)
  case atStart => exact ⟨0, Nat.zero_le _, rfl, HR0, hS0⟩
  case round =>
    obtain ⟨i, hi, rfl, HRi, HS⟩ := hrel
    by_cases hlt : i < n2
    · obtain ⟨⟨r, y⟩, hq⟩ : ∃ q, qs[i]? = some q := ⟨qs[i]'(by rw [Hlen.out]; exact hlt), List.getElem?_eq_getElem _⟩
      have hRr := HH.out.on HS.out.held.1
      obtain ⟨b, off, rfl, hbb, hc⟩ := hRr.row (by omega)
      have hm := List.mem_of_getElem? hq
      have hwant := HH.out.wants _ hm
      have hnm := HNm.out _ hm
      have hfw := HFw.out _ hm
      have hri : rs[i]? = some r := by rw [← Hrs.out, List.getElem?_map, hq]; rfl
      simp only at hwant hnm hfw
      have z0 : wr.cell? ⟨b, off + i * 17, none⟩ = some (.string (txt r.name)) := hc i _ 0 _ hq rfl
      have z1 : wr.cell? ⟨b, off + i * 17 + 1, none⟩ = some (.int .i64 r.pri) := hc i _ 1 _ hq rfl
      have z2 : wr.cell? ⟨b, off + i * 17 + 2, none⟩ = some (.int .u32 (r.m.sa : Int)) := hc i _ 2 _ hq rfl
      have z3 : wr.cell? ⟨b, off + i * 17 + 3, none⟩ = some (.int .i64 r.m.sl) := hc i _ 3 _ hq rfl
      have z4 : wr.cell? ⟨b, off + i * 17 + 4, none⟩ = some (.int .u32 (r.m.da : Int)) := hc i _ 4 _ hq rfl
      have z5 : wr.cell? ⟨b, off + i * 17 + 5, none⟩ = some (.int .i64 r.m.dl) := hc i _ 5 _ hq rfl
      have z6 : wr.cell? ⟨b, off + i * 17 + 6, none⟩ = some (.int .i64 r.m.pr) := hc i _ 6 _ hq rfl
      have z7 : wr.cell? ⟨b, off + i * 17 + 7, none⟩ = some (.int .i64 r.m.sp) := hc i _ 7 _ hq rfl
      have z8 : wr.cell? ⟨b, off + i * 17 + 8, none⟩ = some (.int .i64 r.m.dp) := hc i _ 8 _ hq rfl
      have z9 : wr.cell? ⟨b, off + i * 17 + 9, none⟩ = some (.int .i64 r.x.frm) := hc i _ 9 _ hq rfl
      have z10 : wr.cell? ⟨b, off + i * 17 + 10, none⟩ = some (.int .i64 r.x.too) := hc i _ 10 _ hq rfl
      have z11 : wr.cell? ⟨b, off + i * 17 + 11, none⟩ = some (.int .i64 r.x.bnd) := hc i _ 11 _ hq rfl
      have z12 : wr.cell? ⟨b, off + i * 17 + 12, none⟩ = some (.slice y.av y.nv y.cv) := hc i _ 12 _ hq rfl
      have z13 : wr.cell? ⟨b, off + i * 17 + 13, none⟩ = some (.slice y.an y.nn y.cn) := hc i _ 13 _ hq rfl
      have z14 : wr.cell? ⟨b, off + i * 17 + 14, none⟩ = some (.slice y.al y.nl y.cl) := hc i _ 14 _ hq rfl
      have z15 : wr.cell? ⟨b, off + i * 17 + 15, none⟩ = some (.slice y.ac y.nc y.cc) := hc i _ 15 _ hq rfl
      have z16 : wr.cell? ⟨b, off + i * 17 + 16, none⟩ = some (.bool r.strict) := hc i _ 16 _ hq rfl
      have kl : (i : Int) < (n2 : Int) := by omega
      have hz : RBox wr.heap.size noRul noWSl (wr.alloc (.cells #[.string ⟨#[]⟩, .int .i64 0, .int .u32 0, .int .i64 0, .int .u32 0, .int .i64 0, .int .i64 0, .int .i64 0, .int .i64 0, .int .i64 0, .int .i64 0, .int .i64 0, .slice none 0 0, .slice none 0 0, .slice none 0 0, .slice none 0 0, .bool false] 58)) := heap_alloc_new wr _
      have HW := hid hwant
      have Hnm := hid hnm
      have Hfw := hid hfw
      have Hgo := hid ((goC_on (nd := nd) (l := l) hri).symm.trans HRi.out)
      have HNs := hid (show namesD (rs.take (i + 1)) = (namesD (rs.take i)).put (Lit.string r.name) (.agg []) from by rw [List.take_add_one, hri]; exact names_snoc _ _)
      have HTw := hid (has_names (rs.take i) r)
      have hkey := key_name r.name hnm
      clear hc hq hRr hwant hnm hfw hm hri
      go_upto_region 8 with (with_reducible refine store_rule_lit (r := r) (y := y) hz rfl _ _ rfl (by go_simp) (by go_simp) ?_)
      obtain ⟨w6, hw6⟩ : ∃ w6, (wr.alloc (.cells #[.string ⟨#[]⟩, .int .i64 0, .int .u32 0, .int .i64 0, .int .u32 0, .int .i64 0, .int .i64 0, .int .i64 0, .int .i64 0, .int .i64 0, .int .i64 0, .int .i64 0, .slice none 0 0, .slice none 0 0, .slice none 0 0, .slice none 0 0, .bool false] 58)).setRow wr.heap.size (rarr r y) = w6 := ⟨_, rfl⟩
      simp only [hw6, Act.put]
      rw [World.setRow_alloc_new] at hw6
      obtain ⟨BS, hBS⟩ : ∃ BS, wr.heap.size = BS := ⟨_, rfl⟩
      simp only [hBS]
      have HB6 := hid (show Below wr.heap.size wr w6 by rw [← hw6]; exact (Below.refl wr.heap.size wr).alloc (Nat.le_refl _) _)
      have HX6 := hid (show RBox BS r y w6 by rw [← hBS, ← hw6]; exact heap_alloc_new wr _)
      have HS6 := hid (HS.out.on HB6.out)
      clear hw6 hBS hz z0 z1 z2 z3 z4 z5 z6 z7 z8 z9 z10 z11 z12 z13 z14 z15 z16
      have x0 := rbox_cell HX6.out 0 (v := .string (txt r.name)) rfl
      obtain ⟨tb, htb⟩ : ∃ tb, Maps.has (namesD (rs.take i)) (Lit.string r.name) = tb := ⟨_, rfl⟩
      have HM6 := hid HS6.out.map
      have HTb := hid (HTw.out.symm.trans htb)
      have Htb := hid htb
      clear htb
      go_upto_region 9 with (first
        | (at_lookup; refine wpList_lookup_own_unit _ rfl _ _ 72 rfl 9 73 law_s Try.underlying72 (zero_u _) MB i _ rfl HM6.out _ _ rfl hkey ?_; rw [Htb.out]))
      obtain ⟨w7, hw7⟩ : ∃ w7, w6.alloc (.cells #[] 73) = w7 := ⟨_, rfl⟩
      simp only [hw7]
      have HB7 := hid (show Below w6.heap.size w6 w7 by rw [← hw7]; exact (Below.refl _ _).alloc (Nat.le_refl _) _)
      have HS7 := hid (HS6.out.on HB7.out)
      have HX7 := hid (box_below HX6.out HB7.out (pst_lt HX6.out))
      have y0 := rbox_cell HX7.out 0 (v := .string (txt r.name)) rfl
      clear hw7 x0 HM6
      cases tb with
      | true =>
        have HE : Hid (R = ((i : Int), 3)) := by
          have h5 : rulE nd l (rs.take i) r = 3 := by unfold rulE; rw [if_pos (.inl HTb.out)]
          have := Hgo.out
          rw [h5, if_pos (by decide)] at this
          exact this.symm
        go_wp2_with fail
        go_ret2
        exact ⟨by rw [HE.out]; rfl, HS7.out.held.1⟩
      | false =>
        have hws := is_word r.name (by have := Hnm.out; omega)
        obtain ⟨wb, hwb⟩ : ∃ wb, isS r.name = wb := ⟨_, rfl⟩
        have HWn := hid (fun (W : World) => hwb ▸ HWd.out r.name W Hnm.out)
        rw [hwb] at hws
        clear hwb
        cases wb with
        | false =>
          have HE : Hid (R = ((i : Int), 3)) := by
            have h5 : rulE nd l (rs.take i) r = 3 := by unfold rulE; rw [if_pos (.inr hws)]
            have := Hgo.out
            rw [h5, if_pos (by decide)] at this
            exact this.symm
          clear hws
          go_wp2_with (first | (go_at_call 27; (with_reducible refine (HWn.out _).mono ?_); rintro e1 w8 ⟨rfl, hb8⟩; have HS8 := hid (HS7.out.on hb8); have HX8 := hid (box_below HX7.out hb8 (pst_lt HX7.out)); have v0 := rbox_cell HX8.out 0 (v := .string (txt r.name)) rfl; clear hb8))
          go_ret2
          exact ⟨by rw [HE.out]; rfl, HS8.out.held.1⟩
        | true =>
          obtain ⟨f, hf⟩ : ∃ f, rulC nd l r = f := ⟨_, rfl⟩
          have HCk := hid (fun (w' : World) (hh : Held w nd A n c w') (hw : WArg w' r.x y) => hf ▸ HRt.out r y w' hh hw Hfw.out)
          have hru : rulE nd l (rs.take i) r = f := by
            unfold rulE
            rw [if_neg (by rw [HTb.out, hws]; simp)]
            exact hf
          rw [hru] at Hgo
          clear hws hf hru
          by_cases hf0 : f = 0
          · subst hf0
            have t5 : ((0 : Int) != 0) = false := rfl
            have HE : Hid (goC nd l (rs.take (i + 1)) (rs.drop (i + 1)) = R) := by
              have := Hgo.out
              rw [if_neg (by decide)] at this
              exact this
            go_wp2_with (first | (go_at_call 27; (with_reducible refine (HWn.out _).mono ?_); rintro e1 w8 ⟨rfl, hb8⟩; have HS8 := hid (HS7.out.on hb8); have HX8 := hid (box_below HX7.out hb8 (pst_lt HX7.out)); have v0 := rbox_cell HX8.out 0 (v := .string (txt r.name)) rfl; clear hb8) | (at_mapUpdate; refine wpList_mapUpdate_own _ rfl _ _ _ 72 rfl 9 73 law_s Try.underlying72 (unitElem (H := Unit)) MB i _ rfl HS8.out.map (by unfold maxLen; omega) _ _ _ rfl rfl hkey _ [] unitElem_mk ?_; intro w9 hown9 hg9; have HS9 := hid (HS8.out.put hown9 hg9); have HX9 := hid (box_map HX8.out HS8.out.map hg9); obtain ⟨p0, p1⟩ := HS9.out.held.cells; have HW9 := hid (HW.out.on HS9.out.held.1); clear hown9 hg9) | (with_reducible refine load_rule HX9.out rfl _ rfl (by go_simp) ?_) | (go_at_call 28; (with_reducible refine (HCk.out _ HS9.out.held HW9.out).mono ?_); rintro e3 w10 ⟨rfl, hb10⟩; have HS10 := hid (HS9.out.on hb10); clear hb10))
            go_roundw
            case rel => exact ⟨i + 1, by omega, by go_num, HE, by rw [HNs.out]; exact HS10⟩
            case measure => simp [intOf]; omega
          · have t5 : (f != 0) = true := by simpa using hf0
            have HE : Hid (R = ((i : Int), f)) := by
              have := Hgo.out
              rw [if_pos hf0] at this
              exact this.symm
            clear hf0
            go_wp2_with (first | (go_at_call 27; (with_reducible refine (HWn.out _).mono ?_); rintro e1 w8 ⟨rfl, hb8⟩; have HS8 := hid (HS7.out.on hb8); have HX8 := hid (box_below HX7.out hb8 (pst_lt HX7.out)); have v0 := rbox_cell HX8.out 0 (v := .string (txt r.name)) rfl; clear hb8) | (at_mapUpdate; refine wpList_mapUpdate_own _ rfl _ _ _ 72 rfl 9 73 law_s Try.underlying72 (unitElem (H := Unit)) MB i _ rfl HS8.out.map (by unfold maxLen; omega) _ _ _ rfl rfl hkey _ [] unitElem_mk ?_; intro w9 hown9 hg9; have HS9 := hid (HS8.out.put hown9 hg9); have HX9 := hid (box_map HX8.out HS8.out.map hg9); obtain ⟨p0, p1⟩ := HS9.out.held.cells; have HW9 := hid (HW.out.on HS9.out.held.1); clear hown9 hg9) | (with_reducible refine load_rule HX9.out rfl _ rfl (by go_simp) ?_) | (go_at_call 28; (with_reducible refine (HCk.out _ HS9.out.held HW9.out).mono ?_); rintro e3 w10 ⟨rfl, hb10⟩; have HS10 := hid (HS9.out.on hb10); clear hb10))
            go_ret2
            exact ⟨by rw [HE.out]; rfl, HS10.out.held.1⟩
    · obtain rfl : i = n2 := by omega
      have hRR : Hid (R = (-1, 0)) := by
        have h2 : rs.length = i := by rw [← Hrs.out, List.length_map, Hlen.out]
        have := HRi.out
        rw [List.drop_of_length_le (by omega)] at this
        exact this.symm
      go_wp2_with fail
      go_ret2
      exact ⟨by rw [hRR.out]; rfl, HS.out.held.1⟩
theorem sound_spec : SoundSpec 16 20 :=
  ⟨fun nd A n c l A2 n2 c2 qs w hg hq hn _ hnm hfw => by
    by_cases h : (checkS nd l).2 = 0
    · have Q : checkRS nd l (qs.map (·.1)) = goC nd l [] (qs.map (·.1)) := by unfold checkRS; rw [if_neg (by omega)]
      rw [Q]
      exact check_in nd A n c l A2 n2 c2 qs w hg.row hq hn hnm hfw h
    · have Q : checkRS nd l (qs.map (·.1)) = (-1, (checkS nd l).2) := by unfold checkRS; rw [if_pos h]
      rw [Q]
      exact check_bad nd A n c l A2 n2 c2 w hg.row h,
  fun A n c qs node w hq hn _ hnm hfw _ => at_any A n c qs node w hq hn hnm hfw⟩
end Go.Proofs.Ythoblabimkfjpaa
