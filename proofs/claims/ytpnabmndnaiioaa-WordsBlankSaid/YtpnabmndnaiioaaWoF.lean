/- WordsBlank: the law. -/
import Derived.Test.YtpnabmndnaiioaaWoE
namespace Go.Proofs.Ytpnabmndnaiioaa
open Go.RowKit
set_option maxHeartbeats 12800000
set_option maxRecDepth 100000
theorem blank_no (h : WordSpec 7) (s : List UInt8) (A : Option Addr) (n c : Nat) (w : World) (hs : s.length ≤ 9223372036854775807) (_ : n ≤ 9223372036854775807)
    (hno : (splitS s).2.2 ≠ 0 ∨ 1000 < s.length ∨ n < (splitS s).1.length + 1) (hD : (splitS s).1.length ≤ 10000) :
    Calls Try.prog 3 #[.string (txt s), .slice A n c] w fun e w' => e = .returned (.bool true) ∧ Below w.heap.size w w' := by
  have HA := hid (alive_any h w)
  have HS := hid (fun W => (split_any s W hs).mono fun _ _ => tokAns_of)
  have hZ : (txt s).size = s.length := rfl
  obtain ⟨D, a, e, hx⟩ : ∃ D a e, splitS s = (D, a, e) := ⟨_, _, _, rfl⟩
  rw [hx] at HS hno hD
  simp only at hno hD
  obtain ⟨d, hd⟩ : ∃ d, D.length = d := ⟨_, rfl⟩
  have HS2 : Hid (∀ W : World, Calls Try.prog 6 #[.string (txt s)] W fun ee w' => ∃ A c, ee = .returned (.tuple #[.slice A d c, .int .i64 a, .int .i64 e]) ∧ Below W.heap.size W w') := fun W => (HS.out W).mono fun _ _ ⟨A, c, h1, _, h3⟩ => ⟨A, c, by rw [← hd]; exact h1, h3⟩
  rw [hd] at hno hD
  clear h HS hx hd
  have ew : IntKind.i64.wrap ((d : Int) + 1) = (d : Int) + 1 := by rw [IntKind.wrap_i64]; omega
  by_cases c1 : e = 0
  · subst c1
    have u1 : ((0 : Int) != 0) = false := by decide
    by_cases c2 : 1000 < s.length
    · have u2 : decide ((1000 : Int) < (s.length : Int)) = true := decide_eq_true (by omega)
      clear hno c2
      go_enter Try.func3, Try.ntmps3
      go_wp2_with (first
        | (go_at_call 5; (with_reducible refine HA.out.mono ?_); rintro e' w1 ⟨rfl, hb1⟩)
        | (go_at_call 6; (with_reducible refine (HS2.out _).mono ?_); rintro e' w2 ⟨A2, c2, rfl, hb2⟩))
      go_ret
      exact ⟨rfl, hb1.trans (hb2.mono hb1.size)⟩
    · have u2 : decide ((1000 : Int) < (s.length : Int)) = false := decide_eq_false (by omega)
      have u3 : decide ((n : Int) < (d : Int) + 1) = true := decide_eq_true (by omega)
      clear hno c2
      go_enter Try.func3, Try.ntmps3
      go_wp2_with (first
        | (go_at_call 5; (with_reducible refine HA.out.mono ?_); rintro e' w1 ⟨rfl, hb1⟩)
        | (go_at_call 6; (with_reducible refine (HS2.out _).mono ?_); rintro e' w2 ⟨A2, c2, rfl, hb2⟩))
      go_ret
      exact ⟨rfl, hb1.trans (hb2.mono hb1.size)⟩
  · have u1 : (e != 0) = true := by simpa using c1
    clear hno c1
    go_enter Try.func3, Try.ntmps3
    go_wp2_with (first
      | (go_at_call 5; (with_reducible refine HA.out.mono ?_); rintro e' w1 ⟨rfl, hb1⟩)
      | (go_at_call 6; (with_reducible refine (HS2.out _).mono ?_); rintro e' w2 ⟨A2, c2, rfl, hb2⟩))
    go_ret
    exact ⟨rfl, hb1.trans (hb2.mono hb1.size)⟩
theorem wo_drewN {B n : Nat} {a w : World} (h : Below B a w) : Below B a (w.drewN n) := ⟨h.os, h.tape, h.output, h.size, h.block⟩
theorem joinR_step {P : List (List Bool)} {X : List (List UInt8)} {i : Nat} {b : List Bool} {x : List UInt8} (hb : P[i]? = some b) (hx : X[i]? = some x) : joinR (P.drop i) (X.drop i) = padL b ++ (x ++ joinR (P.drop (i + 1)) (X.drop (i + 1))) := by
  obtain ⟨h1, h2⟩ := List.getElem?_eq_some_iff.1 hb
  obtain ⟨h3, h4⟩ := List.getElem?_eq_some_iff.1 hx
  rw [List.drop_eq_getElem_cons h1, List.drop_eq_getElem_cons h3, h2, h4, joinR]
theorem joinR_last {P : List (List Bool)} {X : List (List UInt8)} {i : Nat} {b : List Bool} (hb : P[i]? = some b) (hx : X.length ≤ i) : joinR (P.drop i) (X.drop i) = padL b := by
  obtain ⟨h1, h2⟩ := List.getElem?_eq_some_iff.1 hb
  rw [List.drop_eq_getElem_cons h1, List.drop_of_length_le hx, h2, joinR]
theorem blank_in (h : WordSpec 7) (s : List UInt8) (A : Option Addr) (n c : Nat) (l : List (List UInt8)) (D : List Tok) (w : World) (hr : RStr w w.heap.size A n l) (hx : splitS s = (D, -1, 0)) (hs : s.length ≤ 1000) (hn : D.length + 1 ≤ n) (hn2 : n ≤ 9223372036854775807) :
    Calls Try.prog 3 #[.string (txt s), .slice A n c] w fun e w' => e = .returned (.bool true) ∧ Below w.heap.size w w' := by
  have HA := hid (alive_any h w)
  obtain ⟨hok, _, _⟩ := split_toks hx
  obtain ⟨hdl, hsm⟩ := split_size hx
  have HS := hid (fun W => (split_any s W (by omega)).mono fun _ _ => tokAns_of)
  rw [hx] at HS
  have hZ : (txt s).size = s.length := rfl
  obtain ⟨d, hd⟩ : ∃ d, D.length = d := ⟨_, rfl⟩
  have HS2 : Hid (∀ W : World, Calls Try.prog 6 #[.string (txt s)] W fun ee w' => ∃ A c, ee = .returned (.tuple #[.slice A d c, .int .i64 (-1), .int .i64 0]) ∧ RTok w' w'.heap.size A d D ∧ Below W.heap.size W w') := fun W => (HS.out W).mono fun _ _ ⟨A, c, h1, h2, h3⟩ => ⟨A, c, by rw [← hd]; exact h1, by rw [← hd]; exact h2, h3⟩
  rw [hd] at hn hdl
  have u1 : ((0 : Int) != 0) = false := by decide
  have u2 : decide ((1000 : Int) < (s.length : Int)) = false := decide_eq_false (by omega)
  have u3 : decide ((n : Int) < (d : Int) + 1) = false := decide_eq_false (by omega)
  have ew : IntKind.i64.wrap ((d : Int) + 1) = (d : Int) + 1 := by rw [IntKind.wrap_i64]; omega
  have HR := hid hr
  have hll := hr.1
  obtain ⟨P, hP⟩ : ∃ P, l.map bitsOf = P := ⟨_, rfl⟩
  obtain ⟨X, hX⟩ : ∃ X, D.map (·.text) = X := ⟨_, rfl⟩
  have hXl : X.length = d := by rw [← hX, List.length_map, hd]
  have hPl : P.length = n := by rw [← hP, List.length_map, hll]
  have HPat := hid (fun (i : Nat) (x : List UInt8) (hi : l[i]? = some x) => (by rw [← hP, List.getElem?_map, hi]; rfl : P[i]? = some (bitsOf x)))
  have HXat := hid (fun (i : Nat) (t : Tok) (hi : D[i]? = some t) => (by rw [← hX, List.getElem?_map, hi]; rfl : X[i]? = some t.text))
  have Hsm := hid hsm
  have HJ : Hid ((joinR P X).length ≤ 10000 → ∃ l', splitS (joinR P X) = (l', -1, 0) ∧ l'.map (fun t => (t.kind, t.text)) = D.map (fun t => (t.kind, t.text))) := fun hl => by
    rw [← hX] at hl ⊢
    exact split_join hok (by rw [hPl, hd]; omega) hl
  have Hh := hid h
  have HN := hid (fun W => num_any 0 W)
  clear h hr hok hsm hx HS hP hX
  go_enter Try.func3, Try.ntmps3
  go_wp2_with (first
    | (go_at_call 5; (with_reducible refine HA.out.mono ?_); rintro e' w1 ⟨rfl, hb1⟩)
    | (go_at_call 6; (with_reducible refine (HS2.out _).mono ?_); rintro e' w2 ⟨A2, c2, rfl, hr2, hb2⟩))
  have hb12 := hid (hb1.trans (hb2.mono hb1.size))
  have HR2 := hid (HR.out.on hb12.out)
  have HD2 := hid hr2
  have h0 : Hid (0 ≤ d → [] ++ joinR (P.drop 0) (X.drop 0) = joinR P X) := fun _ => rfl
  have Hempty : Hid ((Value.string ⟨#[]⟩) = .string (txt [])) := rfl
  clear hr2 hb1 hb2
  go_loopw [9, 10] (fun tt ii wr => ∃ (i : Nat) (T : List UInt8), i ≤ d + 1 ∧ ii = .int .i64 i ∧ tt = .string (txt T) ∧ wr = w2 ∧ Hid (T.length ≤ i * 1200) ∧ Hid (i ≤ d → T ++ joinR (P.drop i) (X.drop i) = joinR P X) ∧ Hid (i = d + 1 → T = joinR P X)) (fun _ ii _ => d + 1 - (intOf ii).toNat)
  case atStart => exact ⟨0, [], Nat.zero_le _, rfl, rfl, rfl, Nat.zero_le _, h0, fun h => by omega⟩
  case round =>
    obtain ⟨i, T, hi, rfl, rfl, hww, HT, HJ1, HJ2⟩ := hrel
    have hws := hww.symm
    subst hws
    clear hww
    have hTl := HT.out
    by_cases hlt : i ≤ d
    · have d1 : decide ((i : Int) ≤ (d : Int)) = true := decide_eq_true (by omega)
      obtain ⟨x, hxi⟩ : ∃ x, l[i]? = some x := ⟨l[i]'(by omega), List.getElem?_eq_getElem _⟩
      obtain ⟨b, off, rfl, hbl, hc⟩ := HR2.out.2 (by omega)
      have cx := hc i x hxi
      have hPi := HPat.out i x hxi
      obtain ⟨m, hm⟩ : ∃ m, x.length = m := ⟨_, rfl⟩
      have hZx : (txt x).size = m := by rw [txt_size, hm]
      have HXx := hid (fun (k : Nat) (y : UInt8) (hk : x[k]? = some y) => run_at x k y hk)
      have ew1 : IntKind.i64.wrap ((i : Int) + 1) = (i : Int) + 1 := by rw [IntKind.wrap_i64]; omega
      have hbl2 := bits_len x
      obtain ⟨bs, hbs⟩ : ∃ bs, bitsOf x = bs := ⟨_, rfl⟩
      have Hbit : Hid (∀ (k : Nat) (y : UInt8), x[k]? = some y → k < 20 → bs[k]? = some (decide (y.toNat % 2 = 1))) := fun k y hk h20 => by
        rw [← hbs]; unfold bitsOf
        rw [List.getElem?_map, List.getElem?_take_of_lt h20, hk]; rfl
      rw [hbs] at hPi hbl2
      rw [hm] at hbl2
      have Hpd : Hid (padL (bs.take 0) = [32]) := rfl
      clear hc
      go_wp2_with fail
      go_loopw [11, 12] (fun pp kk wx => ∃ k : Nat, k ≤ min 20 m ∧ kk = .int .i64 k ∧ pp = .string (txt (padL (bs.take k))) ∧ wx = w2) (fun _ kk _ => 20 - (intOf kk).toNat)
      case atStart => exact ⟨0, Nat.zero_le _, rfl, rfl, rfl⟩
      case round =>
        obtain ⟨k, hk, rfl, rfl, hww⟩ := hrel
        have hws := hww.symm
        subst hws
        clear hww
        have hpl := padL_len (bs.take k)
        have hpl2 : (padL (bs.take k)).length ≤ 101 := by
          have : (bs.take k).length ≤ 20 := by rw [List.length_take]; omega
          omega
        by_cases hkm : k < m ∧ k < 20
        · have d2 : decide ((k : Int) < (m : Int)) = true := decide_eq_true (by omega)
          have d3 : decide ((k : Int) < 20) = true := decide_eq_true (by omega)
          obtain ⟨y, hy⟩ : ∃ y, x[k]? = some y := ⟨x[k]'(by omega), List.getElem?_eq_getElem _⟩
          have hry := HXx.out k y hy
          have hbk := Hbit.out k y hy hkm.2
          have hodd := odd_u8 y
          have hts : bs.take (k + 1) = bs.take k ++ [decide (y.toNat % 2 = 1)] := by rw [List.take_add_one, hbk]; rfl
          have hsn := padL_snoc (bs.take k) (decide (y.toNat % 2 = 1))
          rw [← hts] at hsn
          have ew2 : IntKind.i64.wrap ((k : Int) + 1) = (k : Int) + 1 := by rw [IntKind.wrap_i64]; omega
          obtain ⟨Q, hQ⟩ : ∃ Q, padL (bs.take k) = Q := ⟨_, rfl⟩
          rw [hQ] at hsn hpl2
          rw [hQ]
          cases hp : decide (y.toNat % 2 = 1) with
          | true =>
            rw [hp] at hodd hsn
            simp only [if_true] at hsn
            have r1 : ∀ W : World, (Op.stringOp .add (txt Q) ⟨#[35, 32, 120, 59, 10]⟩).run Try.prog W = .ok (.string (txt (Q ++ [35, 32, 120, 59, 10]))) W := run_cat Q [35, 32, 120, 59, 10] (by simp; omega)
            have Hsn := hid hsn
            clear hsn hp hts hpl hQ
            go_wp2_with fail
            clear ew2
            go_roundw
            case rel => exact ⟨k + 1, by omega, by go_num, by rw [Hsn.out], by first | rfl | trivial⟩
            case measure => simp [intOf]; omega
          | false =>
            rw [hp] at hodd hsn
            simp only [Bool.false_eq_true, if_false] at hsn
            have r1 : ∀ W : World, (Op.stringOp .add (txt Q) ⟨#[10, 32]⟩).run Try.prog W = .ok (.string (txt (Q ++ [10, 32]))) W := run_cat Q [10, 32] (by simp; omega)
            have Hsn := hid hsn
            clear hsn hp hts hpl hQ
            go_wp2_with fail
            clear ew2
            go_roundw
            case rel => exact ⟨k + 1, by omega, by go_num, by rw [Hsn.out], by first | rfl | trivial⟩
            case measure => simp [intOf]; omega
        · have hkk : k = min 20 m := by omega
          have htk : bs.take k = bs := List.take_of_length_le (by omega)
          rw [htk] at hpl2
          rw [htk]
          have hex : ((decide ((k : Int) < (m : Int)) = true ∧ decide (k < m) = true) ∧ decide ((k : Int) < 20) = false ∧ decide (k < 20) = false) ∨ (decide ((k : Int) < (m : Int)) = false ∧ decide (k < m) = false) := by
            by_cases h1 : k < m
            · exact .inl ⟨⟨decide_eq_true (by omega), decide_eq_true h1⟩, decide_eq_false (by omega), decide_eq_false (by omega)⟩
            · exact .inr ⟨decide_eq_false (by omega), decide_eq_false h1⟩
          clear hkk htk hk hkm hpl hbl2
          have r3 := run_cat T (padL bs) (by omega)
          have hTT : (T ++ padL bs).length ≤ i * 1200 + 101 := by rw [List.length_append]; omega
          obtain ⟨U, hU⟩ : ∃ U, T ++ padL bs = U := ⟨_, rfl⟩
          rw [hU] at r3 hTT
          by_cases hid' : i < d
          · have d4 : decide ((i : Int) < (d : Int)) = true := decide_eq_true (by omega)
            obtain ⟨t, ht⟩ : ∃ t, D[i]? = some t := ⟨D[i]'(by omega), List.getElem?_eq_getElem _⟩
            obtain ⟨b2, o2, rfl, hb2l, hc2⟩ := HD2.out.2 (by omega)
            obtain ⟨k0, k1, k2⟩ := hc2 i t ht
            have hts := Hsm.out t (List.mem_of_getElem? ht)
            have r4 := run_cat U t.text (by omega)
            have HT2 : Hid ((U ++ t.text).length ≤ (i + 1) * 1200) := by show _ ≤ _; rw [List.length_append]; omega
            have HJ3 : Hid (i + 1 ≤ d → (U ++ t.text) ++ joinR (P.drop (i + 1)) (X.drop (i + 1)) = joinR P X) := fun _ => by
              rw [← HJ1.out (by omega), joinR_step hPi (HXat.out i t ht), ← hU]
              simp only [List.append_assoc]
            have HJ4 : Hid (i + 1 = d + 1 → U ++ t.text = joinR P X) := fun h => by omega
            clear hc2 ht hU hts
            rcases hex with ⟨⟨d2, e2⟩, d3, e3⟩ | ⟨d2, e2⟩
            · go_wp2_with fail
              clear ew1
              go_roundw
              case rel => exact ⟨i + 1, _, by omega, by go_num, rfl, by first | rfl | trivial, HT2.out, HJ3.out, HJ4.out⟩
              case measure => simp [intOf]; omega
            · go_wp2_with fail
              clear ew1
              go_roundw
              case rel => exact ⟨i + 1, _, by omega, by go_num, rfl, by first | rfl | trivial, HT2.out, HJ3.out, HJ4.out⟩
              case measure => simp [intOf]; omega
          · have d4 : decide ((i : Int) < (d : Int)) = false := decide_eq_false (by omega)
            have HT2 : Hid (U.length ≤ (i + 1) * 1200) := by show _ ≤ _; omega
            have HJ3 : Hid (i + 1 ≤ d → U ++ joinR (P.drop (i + 1)) (X.drop (i + 1)) = joinR P X) := fun h => by omega
            have HJ4 : Hid (i + 1 = d + 1 → U = joinR P X) := fun _ => by
              rw [← HJ1.out (by omega), joinR_last hPi (by omega), ← hU]
            clear hU
            rcases hex with ⟨⟨d2, e2⟩, d3, e3⟩ | ⟨d2, e2⟩
            · go_wp2_with fail
              clear ew1
              go_roundw
              case rel => exact ⟨i + 1, _, by omega, by go_num, rfl, by first | rfl | trivial, HT2.out, HJ3.out, HJ4.out⟩
              case measure => simp [intOf]; omega
            · go_wp2_with fail
              clear ew1
              go_roundw
              case rel => exact ⟨i + 1, _, by omega, by go_num, rfl, by first | rfl | trivial, HT2.out, HJ3.out, HJ4.out⟩
              case measure => simp [intOf]; omega
    · obtain rfl : i = d + 1 := by omega
      have d1 : decide (((d : Int) + 1) ≤ (d : Int)) = false := decide_eq_false (by omega)
      have hTJ := HJ2.out rfl
      have hZT : (txt T).size = T.length := rfl
      by_cases hbig : 10000 < T.length
      · have d2 : decide ((10000 : Int) < (T.length : Int)) = true := decide_eq_true (by omega)
        clear hTJ hbig
        go_wp2_with fail
        go_ret
        exact ⟨rfl, hb12.out⟩
      · have d2 : decide ((10000 : Int) < (T.length : Int)) = false := decide_eq_false (by omega)
        obtain ⟨l', hl1, hl2⟩ := HJ.out (by rw [← hTJ]; omega)
        rw [← hTJ] at hl1
        have HM := hid (fun W => Hh.out T W (by omega))
        rw [hl1] at HM
        have hll' : l'.length = d := by have := congrArg List.length hl2; simpa [hd] using this
        have HM2 : Hid (∀ W : World, Calls Try.prog 7 #[.string (txt T)] W fun ee w' => ∃ A c, ee = .returned (.tuple #[.slice A d c, .int .i64 (-1), .int .i64 0]) ∧ RTok w' w'.heap.size A d l' ∧ Below W.heap.size W w') := fun W => (HM.out W).mono fun _ _ ⟨A, c, h1, h2, h3⟩ => ⟨A, c, by rw [← hll']; exact h1, by rw [← hll']; exact h2, h3⟩
        have Hsame : Hid (∀ (i : Nat) (t u : Tok), l'[i]? = some t → D[i]? = some u → t.kind = u.kind ∧ t.text = u.text) := fun i t u h1 h2 => by
          have := congrArg (fun z => z[i]?) hl2
          simp only [List.getElem?_map, h1, h2, Option.map_some, Option.some.injEq, Prod.mk.injEq] at this
          exact this
        have v1 : ((-1 : Int) != -1) = false := by decide
        have v2 : ((d : Int) != (d : Int)) = false := by simp
        have hlm := hll'
        clear HM hl1 hl2 hTJ hbig hll'
        go_wp2_with (first
          | (go_at_call 7; (with_reducible refine (HM2.out _).mono ?_); rintro e' w3 ⟨A3, c3, rfl, hr3, hb3⟩)
          | (go_at_call 8; (with_reducible refine (HN.out _).mono ?_); rintro _ _ ⟨rfl, rfl⟩))
        have HD3 := hid (HD2.out.on hb3)
        have HE3 := hid hr3
        have hb123 := hid (hb12.out.trans (hb3.mono hb12.out.size))
        clear hr3 hb3
        go_loopw [16] (fun ii wx => ∃ j : Nat, j ≤ d ∧ ii = .int .i64 j ∧ Hid (Below w3.heap.size w3 wx)) (fun ii _ => d - (intOf ii).toNat)
        case atStart => exact ⟨0, Nat.zero_le _, rfl, Below.refl _ _⟩
        case round =>
          obtain ⟨j, hj, rfl, HBj⟩ := hrel
          by_cases hjd : j < d
          · have d3 : decide ((j : Int) < (d : Int)) = true := decide_eq_true (by omega)
            obtain ⟨t, ht⟩ : ∃ t, l'[j]? = some t := ⟨l'[j]'(by omega), List.getElem?_eq_getElem _⟩
            obtain ⟨u, hu⟩ : ∃ u, D[j]? = some u := ⟨D[j]'(by omega), List.getElem?_eq_getElem _⟩
            obtain ⟨b2, o2, hA2, hb2l, hc2⟩ := (HD3.out.on HBj.out).2 (by omega)
            obtain ⟨b3, o3, hA3, hb3l, hc3⟩ := (HE3.out.on HBj.out).2 (by omega)
            subst hA2 hA3
            obtain ⟨k0, k1, k2⟩ := hc2 j u hu
            obtain ⟨m0, m1, m2⟩ := hc3 j t ht
            obtain ⟨hk, hx⟩ := Hsame.out j t u ht hu
            rw [hk] at m0
            rw [hx] at m2
            have v3 : (u.kind != u.kind) = false := by simp
            have v4 : ((txt u.text).toList != (txt u.text).toList) = false := by simp
            have v5 : ((txt u.text).toList == (txt u.text).toList) = true := by simp
            have ew2 : IntKind.i64.wrap ((j : Int) + 1) = (j : Int) + 1 := by rw [IntKind.wrap_i64]; omega
            clear hc2 hc3 ht hu hk hx m1 k1
            go_wp2_with (go_big_quiet (fail))
            clear ew2
            go_roundw
            case rel => exact ⟨j + 1, by omega, by go_num, wo_drewN HBj.out⟩
            case measure => simp [intOf]; omega
          · obtain rfl : d = j := by omega
            go_wp2_with fail
            go_ret
            exact ⟨rfl, hb123.out.trans (HBj.out.mono hb123.out.size)⟩
theorem split_le (s : List UInt8) : (splitS s).1.length ≤ 10000 := by
  unfold splitS
  split
  · simp
  · rename_i h
    have h1 := scan_len (s.drop 0).length 0 (s.drop 0)
    have h2 : (scanAt s 0).1.length ≤ s.length := Nat.le_trans h1 (by simp)
    split
    · rename_i l h3
      rw [h3] at h2
      show l.length ≤ 10000
      have h4 : l.length ≤ s.length := h2
      omega
    · simp
theorem blank_any (h : WordSpec 7) (s : List UInt8) (A : Option Addr) (n c : Nat) (l : List (List UInt8)) (w : World) (hr : RStr w w.heap.size A n l) (hs : s.length ≤ 9223372036854775807) (hn : n ≤ 9223372036854775807) :
    Calls Try.prog 3 #[.string (txt s), .slice A n c] w fun e w' => e = .returned (.bool true) ∧ Below w.heap.size w w' := by
  by_cases hno : (splitS s).2.2 ≠ 0 ∨ 1000 < s.length ∨ n < (splitS s).1.length + 1
  · exact blank_no h s A n c w hs hn hno (split_le s)
  · obtain ⟨D, a, e, hx⟩ : ∃ D a e, splitS s = (D, a, e) := ⟨_, _, _, rfl⟩
    rw [hx] at hno
    simp only at hno
    obtain rfl : e = 0 := by omega
    obtain ⟨_, rfl, _⟩ := split_toks hx
    exact blank_in h s A n c l D w hr hx (by omega) (by omega) hn
end Go.Proofs.Ytpnabmndnaiioaa
